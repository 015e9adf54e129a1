/- The program's TreeTidy. No condition. -/
import Derived.Test.YtogdbjafibejdaaGreatY35
import Derived.Test.YtogdbjafibejdaaGreatY27
import Derived.Test.YtogdbjafibejdaaGreatY30
import Derived.Test.YtogdbjafibejdaaGreatY28
import Derived.Test.YtogdbjafibejdaaGreatY9
import Derived.Test.YtogdbjafibejdaaGreatY18
import Derived.Test.YtogdbjafibejdaaGreatY20
import Derived.Test.YtogdbjafibejdaaGreatY33
namespace Go.Proofs.YtogdbjafibejdaaGreat
open Go.RowKit Go.Shelf
set_option maxRecDepth 100000
set_option linter.unusedVariables false
attribute [local go_sem] Oper.semAt_some

def TreeT (t : TypeId) : Prop := t = 36 ∨ t = 115 ∨ t = 3
theorem row_agree {B e size n n0 n1 : Nat} {S : Nat → Prop} {v : Value} {xs : List Value} {W W' : World} (h : W.ownsRow B e size v n xs) (ha : Agree n0 n1 TreeT S W W') (ht : TreeT e) : W'.ownsRow B e size v n xs := by
  refine ⟨h.1, ?_⟩
  rcases h.2 with h2 | ⟨g, cap, cur, e1, e2, e3, e4⟩
  · exact .inl h2
  · exact .inr ⟨g, cap, cur, e1, e2, ha.same _ _ e3 (.inr (.inr (.inl ⟨_, _, _, rfl, ht⟩))), e4⟩
theorem OwnQ.agree {B n0 n1 : Nat} {S : Nat → Prop} {v : Value} {qs : List (PNode × (Value × Value))} {W W' : World} (h : OwnQ B W v qs) (ha : Agree n0 n1 TreeT S W W') : OwnQ B W' v qs :=
  ⟨row_agree h.1 ha (.inl rfl), fun q hq => ⟨row_agree (h.2 q hq).1 ha (.inr (.inl rfl)), row_agree (h.2 q hq).2 ha (.inr (.inr rfl))⟩⟩
def intCells (l : List Int) : Array Value := (l.map (Value.int .i64)).toArray
theorem zeros_int : Tryz.zeroCells99 = intCells (List.replicate 500 0) := by kernel_rfl
structure TidyI (w3 : World) (S : Nat) (ns : List PNode) (pre : List Int) (W : World) : Prop where
  own : ∃ v qs, W.heap[S + 1]? = some (.cells #[v] 77 (0, 0)) ∧ OwnQ w3.heap.size W v qs ∧ Apart qs ∧ qs.map (fun q => q.1) = (tidyL ns pre).1
  place : W.heap[S + 1 + 1 + 1 + 1]? = some (.cells (intCells (tidyL ns pre).2) 99 (0, 0))
  boxO : W.heap[S + 1 + 1]? = some (.cells #[.pointer (some ⟨S, 0, none⟩)] 64 (0, 0))
  boxT : W.heap[S + 1 + 1 + 1]? = some (.cells #[.pointer (some ⟨S + 1, 0, none⟩)] 64 (0, 0))
  bel : Below w3.heap.size w3 W
theorem TidyI.agree {w3 : World} {S n1 : Nat} {ns : List PNode} {pre : List Int} {Sx : Nat → Prop} {W W' : World} (h : TidyI w3 S ns pre W) (hS : w3.heap.size = S + 1) (hn : S + 1 + 1 + 1 + 1 < n1) (ha : Agree w3.heap.size n1 TreeT Sx W W') : TidyI w3 S ns pre W' := by
  obtain ⟨v, qs, h1, h2, h3, h4⟩ := h.own
  refine ⟨⟨v, qs, ha.same _ _ h1 (.inr (.inr (.inr (by omega)))), h2.agree ha, h3, h4⟩, ha.same _ _ h.place (.inr (.inr (.inr (by omega)))), ha.same _ _ h.boxO (.inr (.inr (.inr (by omega)))), ha.same _ _ h.boxT (.inr (.inr (.inr (by omega)))), ?_⟩
  refine ⟨ha.os.trans h.bel.os, ha.tape.trans h.bel.tape, ha.output.trans h.bel.output, Nat.le_trans h.bel.size ha.size, fun k hk => ?_⟩
  have hlt : k < W.heap.size := Nat.lt_of_lt_of_le hk h.bel.size
  rw [ha.same k W.heap[k] (by simp [hlt]) (.inl hk), ← h.bel.block k hk]
  simp [hlt]
theorem down_par {ns : List PNode} (hf : KidsFit ns) : ∀ (f s : Nat), ∀ x ∈ down ns f s, x = (s : Int) ∨ ∃ p : Nat, p < ns.length ∧ parOf ns x.toNat = p := by
  intro f
  induction f with
  | zero => intro s x hx; cases hx
  | succ f ih =>
    intro s x hx
    rcases List.mem_cons.mp hx with rfl | hx
    · exact .inl rfl
    · obtain ⟨y, hy, hx⟩ := List.mem_flatMap.mp hx
      obtain ⟨h1, h2, h3, h4⟩ := fit_kid hf hy
      rcases ih y.toNat x hx with e | e
      · right
        refine ⟨s, h1, ?_⟩
        rw [e, show ((y.toNat : Nat) : Int).toNat = y.toNat by omega]
        exact h4
      · exact .inr e
theorem tidyStep_zero (ns : List PNode) (st : List PNode × List Int) : tidyStep ns st ((0 : Nat) : Int) = (st.1 ++ [aloneAt ns 0], st.2.set 0 (st.1.length : Int)) := rfl
theorem tidyStep_pos (ns : List PNode) (st : List PNode × List Int) {j : Nat} (hj : j ≠ 0) : tidyStep ns st (j : Int) = (hangN (st.1 ++ [aloneAt ns j]) st.1.length ((st.2.set j (st.1.length : Int)).getD (parOf ns j).toNat 0).toNat, st.2.set j (st.1.length : Int)) := by
  have e : ((j : Int)).toNat = j := by simp
  unfold tidyStep
  rw [e, if_neg hj]
theorem kz_add {n0 a : Nat} {S : Nat → Prop} {W W' : World} {v : Value} (h : AddFr n0 a W W') (hS : ∀ k, S k → k < W.heap.size) (ha : S a) (h0 : n0 ≤ a) (hc : W.heap[a]? = some (.cells #[v] 77 (0, 0))) : Kz n0 TreeT S S W W' :=
  ⟨h.os, h.tape, h.output, h.size, fun k o hk ho => by
    rw [h.block k (blk_lt hk) ?_ ?_]; exact hk
    · rcases ho with ho | ho | ho
      · omega
      · exact fun e => ho.1 (e ▸ ha)
      · intro e; subst e; rw [hc] at hk; cases hk; cases ho
    · rcases ho with ho | ho | ho
      · exact .inl ho
      · exact .inr (fun cs t fr e ht => ho.2 ⟨cs, t, fr, by rw [e] at hk; cases hk; rfl, .inl ht⟩)
      · exact .inr (fun cs t fr e => by rw [e] at hk; cases hk; cases ho), fun k hk => ⟨Nat.lt_of_lt_of_le (hS k hk) h.size, .inl hk⟩⟩
theorem kz_set {n0 b k : Nat} {S : Nat → Prop} {W : World} {cs : Array Value} {t : TypeId} {u : Value} (hS : ∀ k, S k → k < W.heap.size) (hb : S b) (h0 : n0 ≤ b) (hc : W.heap[b]? = some (.cells cs t (0, 0))) : Kz n0 TreeT S S W (W.setCell ⟨b, k, none⟩ u) := by
  have h : W.grownBy (W.setCell ⟨b, k, none⟩ u) (some b) := grown_setCell _ _ _ _
  refine ⟨h.os, h.tape, h.output, h.size, fun j o hj ho => ?_, fun j hj => ⟨Nat.lt_of_lt_of_le (hS j hj) h.size, .inl hj⟩⟩
  rw [h.block j (blk_lt hj) ?_]; exact hj
  intro e
  injection e with e
  subst e
  rcases ho with ho | ho | ho
  · omega
  · exact ho.1 hb
  · rw [hc] at hj; cases hj; cases ho
theorem kz_turn {n0 g n cap : Nat} {S : Nat → Prop} {W W' : World} {qs : List (PNode × (Value × Value))} (h : TurnQ g qs W W') (ho : OwnQ n0 W (.slice (some ⟨g, 0, none⟩) n cap) qs) (hS : ∀ k, S k → k < W.heap.size) : Kz n0 TreeT S S W W' :=
  ⟨h.os, h.tape, h.output, h.size, fun k o hk hh => by
    rw [h.other (v := .nilFunc) ho (blk_lt hk) ?_]; exact hk
    rcases hh with hh | hh | hh
    · exact .inl hh
    · exact .inr (fun cs t fr e => by
        rw [e] at hk; cases hk
        exact ⟨fun ht => hh.2 ⟨_, _, _, rfl, .inl ht⟩, fun ht => hh.2 ⟨_, _, _, rfl, .inr (.inr ht)⟩⟩)
    · exact .inr (fun cs t fr e => by rw [e] at hk; cases hk; cases hh), fun k hk => ⟨Nat.lt_of_lt_of_le (hS k hk) h.size, .inl hk⟩⟩
theorem int_cell {W : World} {b : Nat} {l : List Int} {t : TypeId} (h : W.heap[b]? = some (.cells (intCells l) t (0, 0))) {k : Nat} (hk : k < l.length) : W.cell? ⟨b, k, none⟩ = some (.int .i64 (l.getD k 0)) ∧ W.frozen? ⟨b, k, none⟩ = false := by
  constructor
  · simp only [World.cell?, h, intCells]
    simp [hk, List.getD_eq_getElem?_getD]
  · simp [World.frozen?, h]
theorem int_set (l : List Int) (k : Nat) (x : Int) : (intCells l).setIfInBounds k (.int .i64 x) = intCells (l.set k x) := by
  simp [intCells, List.map_set]
theorem pre_first {ns : List PNode} {f : Nat} {pre : List Int} {x : Int} (h : pre ++ [x] <+: down ns f 0) (hx : x ≠ 0) : pre ≠ [] := by
  rintro rfl
  cases f with
  | zero =>
    obtain ⟨r, hr⟩ := h
    simp [down] at hr
  | succ f =>
    obtain ⟨r, hr⟩ := h
    simp only [down, List.nil_append, List.cons_append, List.cons.injEq] at hr
    exact hx hr.1

set_option maxHeartbeats 2000000 in
set_option maxRecDepth 100000 in
theorem itidy_any {w : World} {v : Value} {ns : List PNode} (hn : NodesAt w v ns) (hfit : ∀ n ∈ ns, NodeFit n) (hlen : ns.length ≤ 1048576) :
    Calls Tryz.prog 25 #[.agg #[v]] w fun e w' => ∃ v', e = .returned (.agg #[v']) ∧ (TreeOkP ns → OwnN w.heap.size w' v' (tidyN ns)) ∧ (¬ TreeOkP ns → v' = .slice none 0 0) ∧ Below w.heap.size w w' := by
  have HN := (show Hid (NodesAt w v ns) from hn)
  have HFIT := (show Hid (∀ n ∈ ns, NodeFit n) from hfit)
  obtain ⟨a, cap, rfl, hc1, hc2, hcs⟩ := hn.slice
  have HCS := (show Hid _ from hcs)
  clear hn hfit hcs
  obtain ⟨w1, hw1⟩ : ∃ x, x = (w.alloc (.cells #[.slice a ns.length cap] 26)).alloc (.cells #[.slice none 0 0] 26) := ⟨_, rfl⟩
  have b1 : Below w.heap.size w w1 := by rw [hw1]; exact ((Below.refl _ w).alloc (Nat.le_refl _) _).alloc (by simp) _
  have g1 : w1.heap[w.heap.size]? = some (.cells #[.slice a ns.length cap] 26 (0, 0)) := by rw [hw1, Below.heap_alloc _ _ _ (by simp)]; exact World.alloc_heap_new _ _
  have r1 : w1.heap[w.heap.size + 1]? = some (.cells #[.slice none 0 0] 26 (0, 0)) := by
    rw [hw1]
    have := World.alloc_heap_new (w.alloc (.cells #[.slice a ns.length cap] 26)) (.cells #[.slice none 0 0] 26)
    rwa [World.size_alloc] at this
  have HG1 := (show Hid _ from g1)
  have HR1 := (show Hid _ from r1)
  clear g1 r1
  refine (callsIn_wide (n := 5)).1 ?_
  refine callsIn_of_wp_marks Tryz.func25 rfl trivial ?_ rfl
  simp only [Tryz.ntmps25, List.size_toArray, List.length_cons, List.length_nil, Nat.reduceAdd, Nat.reduceSub, Array.replicate_succ, Array.replicate_zero, List.push_toArray, List.append_toArray, List.nil_append, List.cons_append]
  gi_wp2
  rw [← hw1]
  refine ⟨trivial, (callsIn_wide.2 (itreeOk_any (HN.out.below b1) HFIT.out hlen)).mono ?_⟩
  rintro e w2 ⟨r, rfl, hr, b2⟩
  clear hw1
  have hb2 := b1.trans (b2.mono b1.size)
  have HB2 := (show Hid (Below w.heap.size w w2) from hb2)
  have g2 := (b2.block _ (blk_lt HG1.out)).trans HG1.out
  have r2 := (b2.block _ (blk_lt HR1.out)).trans HR1.out
  have k0 : w2.cell? ⟨w.heap.size, 0, none⟩ = some (.slice a ns.length cap) := by simp only [World.cell?, g2]; rfl
  obtain ⟨kr, fr⟩ := one_cell r2
  have hl2 := blk_lt r2
  have HR2 := (show Hid _ from r2)
  clear g2 b2 hb2 b1 HG1 HR1 r2
  cases r
  · have HF : Hid (¬ TreeOkP ns) := fun h => by have := hr.mpr h; cases this
    clear hr
    gi_wp2
    refine leaves_dmarks (by simp) w.heap.size [] _ List.nodup_nil (fun d hd => by cases hd) ?_
    intro w' bw kw
    have hcell := kw _ _ (setCell_at (k := 0) (u := .slice none 0 0) HR2.out) rfl
    refine ⟨_, results_cell_row rfl _ _ (w.heap.size + 1) 26 #[.slice none 0 0] (0, 0) _ rfl hcell Tryz.underlying26 rfl rfl, .slice none 0 0, rfl, fun h => absurd h HF.out, fun _ => rfl, ?_⟩
    exact (HB2.out.setCell (p := ⟨w.heap.size + 1, 0, none⟩) (by simp) _).trans bw
  have HT : Hid (TreeOkP ns) := hr.mp rfl
  clear hr
  have h5 := HT.out.most
  obtain ⟨w3, hw3⟩ : ∃ x, x = w2.alloc (.cells #[.slice a ns.length cap] 77) := ⟨_, rfl⟩
  have b23 : Below w2.heap.size w2 w3 := by rw [hw3]; exact (Below.refl _ _).alloc (Nat.le_refl _) _
  have hs3 : w3.heap.size = w2.heap.size + 1 := by rw [hw3, World.size_alloc]
  have gA : w3.heap[w2.heap.size]? = some (.cells #[.slice a ns.length cap] 77 (0, 0)) := by rw [hw3]; exact World.alloc_heap_new _ _
  obtain ⟨w7, hw7⟩ : ∃ x, x = (((w3.alloc (.cells #[.slice none 0 0] 77)).alloc (.cells #[.pointer (some ⟨w2.heap.size, 0, none⟩)] 64)).alloc (.cells #[.pointer (some ⟨w2.heap.size + 1, 0, none⟩)] 64)).alloc (.cells Tryz.zeroCells99 99) := ⟨_, rfl⟩
  have b37 : Below w3.heap.size w3 w7 := by rw [hw7]; exact ((((Below.refl _ w3).alloc (Nat.le_refl _) _).alloc (by simp) _).alloc (by simp; omega) _).alloc (by simp; omega) _
  have hs7 : w7.heap.size = w2.heap.size + 1 + 1 + 1 + 1 + 1 := by rw [hw7]; simp only [World.size_alloc, hs3]
  gi_wp2
  rw [← hw3, ← hw7]
  refine ⟨trivial, (from_in _ _ _ _).mono ?_⟩
  rintro e wx ⟨rfl, hx⟩
  rw [hx]
  clear hx wx
  gi_wp2
  have gB : w7.heap[w2.heap.size + 1]? = some (.cells #[.slice none 0 0] 77 (0, 0)) := by
    rw [hw7, Below.heap_alloc _ _ _ (by simp; omega), Below.heap_alloc _ _ _ (by simp; omega), Below.heap_alloc _ _ _ (by simp; omega), ← hs3]; exact World.alloc_heap_new _ _
  have gO : w7.heap[w2.heap.size + 1 + 1]? = some (.cells #[.pointer (some ⟨w2.heap.size, 0, none⟩)] 64 (0, 0)) := by
    rw [hw7, Below.heap_alloc _ _ _ (by simp; omega), Below.heap_alloc _ _ _ (by simp; omega)]
    have := World.alloc_heap_new (w3.alloc (.cells #[.slice none 0 0] 77)) (.cells #[.pointer (some ⟨w2.heap.size, 0, none⟩)] 64)
    rwa [World.size_alloc, hs3] at this
  have gT : w7.heap[w2.heap.size + 1 + 1 + 1]? = some (.cells #[.pointer (some ⟨w2.heap.size + 1, 0, none⟩)] 64 (0, 0)) := by
    rw [hw7, Below.heap_alloc _ _ _ (by simp; omega)]
    have := World.alloc_heap_new ((w3.alloc (.cells #[.slice none 0 0] 77)).alloc (.cells #[.pointer (some ⟨w2.heap.size, 0, none⟩)] 64)) (.cells #[.pointer (some ⟨w2.heap.size + 1, 0, none⟩)] 64)
    rwa [World.size_alloc, World.size_alloc, hs3] at this
  have gP : w7.heap[w2.heap.size + 1 + 1 + 1 + 1]? = some (.cells (intCells (List.replicate 500 0)) 99 (0, 0)) := by
    rw [hw7, ← zeros_int]
    have := World.alloc_heap_new (((w3.alloc (.cells #[.slice none 0 0] 77)).alloc (.cells #[.pointer (some ⟨w2.heap.size, 0, none⟩)] 64)).alloc (.cells #[.pointer (some ⟨w2.heap.size + 1, 0, none⟩)] 64)) (.cells Tryz.zeroCells99 99)
    rwa [World.size_alloc, World.size_alloc, World.size_alloc, hs3] at this
  have I7 : TidyI w3 w2.heap.size ns [] w7 := ⟨⟨.slice none 0 0, [], gB, ⟨World.ownsRow_nil _ _ _ _, fun q hq => by cases hq⟩, apart_nil, rfl⟩, gP, gO, gT, b37⟩
  clear gB gO gT gP
  obtain ⟨w8, hw8⟩ : ∃ x, x = (w7.alloc (.cells #[.pointer (some ⟨w2.heap.size, 0, none⟩)] 64)).alloc (.cells #[.int .i64 0] 3) := ⟨_, rfl⟩
  have b78 : Below w7.heap.size w7 w8 := by rw [hw8]; exact ((Below.refl _ w7).alloc (Nat.le_refl _) _).alloc (by simp) _
  have hs8 : w8.heap.size = w7.heap.size + 1 + 1 := by rw [hw8, World.size_alloc, World.size_alloc]
  have cY : w8.cell? ⟨w7.heap.size, 0, none⟩ = some (.pointer (some ⟨w2.heap.size, 0, none⟩)) := by
    have : w8.heap[w7.heap.size]? = some (.cells #[.pointer (some ⟨w2.heap.size, 0, none⟩)] 64 (0, 0)) := by rw [hw8, Below.heap_alloc _ _ _ (by simp)]; exact World.alloc_heap_new _ _
    exact (one_cell this).1
  have cZ : w8.cell? ⟨w7.heap.size + 1, 0, none⟩ = some (.int .i64 0) := by
    have : w8.heap[w7.heap.size + 1]? = some (.cells #[.int .i64 0] 3 (0, 0)) := by
      rw [hw8]
      have := World.alloc_heap_new (w7.alloc (.cells #[.pointer (some ⟨w2.heap.size, 0, none⟩)] 64)) (.cells #[.int .i64 0] 3)
      rwa [World.size_alloc] at this
    exact (one_cell this).1
  have b38 : Below w3.heap.size w3 w8 := b37.trans (b78.mono b37.size)
  have I8 : TidyI w3 w2.heap.size ns [] w8 := I7.agree (n1 := w2.heap.size + 1 + 1 + 1 + 1 + 1) hs3 (by omega) (Sx := fun _ => True) (Agree.of_below b78)
  rw [show (((((((w2.alloc (Obj.cells #[Value.slice a ns.length cap] 77)).alloc (Obj.cells #[Value.slice none 0 0] 77)).alloc (Obj.cells #[Value.pointer (some ⟨w2.heap.size, 0, none⟩)] 64)).alloc (Obj.cells #[Value.pointer (some ⟨w2.heap.size + 1, 0, none⟩)] 64)).alloc (Obj.cells Tryz.zeroCells99 99)).alloc (Obj.cells #[Value.pointer (some ⟨w2.heap.size, 0, none⟩)] 64)).alloc (Obj.cells #[Value.int IntKind.i64 0] 3)) = w8 by rw [hw8, hw7, hw3]]
  rw [hs7] at cY cZ
  have cA : w3.cell? ⟨w2.heap.size, 0, none⟩ = some (.slice a ns.length cap) := (one_cell gA).1
  have hb3 : Below w.heap.size w w3 := HB2.out.trans (b23.mono HB2.out.size)
  have HN3 := (show Hid (NodesAt w3 (.slice a ns.length cap) ns) from HN.out.below hb3)
  have HB3 := (show Hid (Below w.heap.size w w3) from hb3)
  have h1 := HT.out.one
  have HDP := (show Hid (deepOk ns ns.length 0) from tree_deep HT.out (by omega))
  have HR3 := (show Hid (w3.heap[w.heap.size + 1]? = some (.cells #[.slice none 0 0] 26 (0, 0))) from (b23.block _ hl2).trans HR2.out)
  have HI8 := (show Hid _ from I8)
  have hwl : w.heap.size + 1 < w2.heap.size := hl2
  clear hb3 I8 I7 b78 b37 hw8 hw7 hw3
  refine wpIn_tells2 (T := TreeT) (w0 := w8) (n0 := w3.heap.size) (all := down ns ns.length 0) (gf := 121) (lb := #[.pointer (some ⟨w2.heap.size + 1 + 1 + 1 + 1 + 1, 0, none⟩), .pointer (some ⟨w2.heap.size + 1 + 1 + 1 + 1 + 1 + 1, 0, none⟩)]) rfl (enters_of Tryz.func121 (by kernel_rfl) rfl)
    (from_tells2 (w0 := w3) (w := w8) (A := w2.heap.size) (by unfold TreeT; decide) HN3.out (by omega) cA hlen HDP.out b38 cY (by simpa using cZ) (by omega) (by omega)) (Below.refl _ _) (by omega)
    (fun S pre Wq => (∀ j, S j ↔ j = w2.heap.size + 1 ∨ j = w2.heap.size + 1 + 1 + 1 + 1) ∧ TidyI w3 w2.heap.size ns pre Wq)
    ?hF (fun j => j = w2.heap.size + 1 ∨ j = w2.heap.size + 1 + 1 + 1 + 1) (fun j hj => by omega) ⟨fun j => Iff.rfl, HI8.out⟩
    (fun x => { tmps := #[.agg #[.slice a ns.length cap], .pointer (some ⟨w.heap.size, 0, none⟩), .pointer (some ⟨w.heap.size + 1, 0, none⟩), .pointer (some ⟨w2.heap.size + 1 + 1, 0, none⟩), .pointer (some ⟨w2.heap.size + 1 + 1 + 1, 0, none⟩), .pointer (some ⟨w2.heap.size + 1 + 1 + 1 + 1, 0, none⟩), .int .i64 x, .agg #[.slice a ns.length cap], .bool true, .bool false, undef, .pointer (some ⟨w.heap.size, 0, none⟩), .slice a ns.length cap, .agg #[.slice a ns.length cap], .pointer (some ⟨w2.heap.size, 0, none⟩), .agg #[.slice none 0 0], .pointer (some ⟨w2.heap.size + 1, 0, none⟩), .pointer (some ⟨w2.heap.size, 0, none⟩), .func (.func 121) #[] #[.pointer (some ⟨w2.heap.size + 1 + 1 + 1 + 1 + 1, 0, none⟩), .pointer (some ⟨w2.heap.size + 1 + 1 + 1 + 1 + 1 + 1, 0, none⟩)], .int .i64 x, undef, undef, undef, undef, undef, undef, undef, undef, undef, undef, undef, undef, undef, undef, undef, undef, undef, undef, undef, undef, undef, undef, undef, undef, undef, undef, undef, undef, undef, undef], defers := [] }) ?assign ?body ?done
  case hF =>
    rintro S pre Wa Wb ⟨h1, h2⟩ hag
    exact ⟨h1, h2.agree hs3 (by omega) hag⟩
  case assign =>
    intro l m x Wa K' hK'
    gi_wp2
    exact hK'
  case body =>
    rintro l m S pre x W hx ⟨h1, hI⟩ hSW
    obtain ⟨d, hd⟩ := HT.out.linked 0 (by omega)
    have hxm : x ∈ down ns ns.length 0 := hx.subset (by simp)
    obtain ⟨hx0, hx1, _⟩ := down_dep HT.out.fit ns.length d 0 hd x hxm
    have hpx := down_par HT.out.fit ns.length 0 x hxm
    obtain ⟨j, rfl⟩ : ∃ j : Nat, x = (j : Int) := ⟨x.toNat, by omega⟩
    have hj : j < ns.length := by omega
    rw [show ((j : Int)).toNat = j by simp] at hpx
    have hpl : pre.length + 1 ≤ 500 := by
      have h3 := hx.length_le
      have h4 := down_few HT.out (k := 0) (by omega)
      simp only [List.length_append, List.length_cons, List.length_nil] at h3
      omega
    have hbW := HB3.out.trans (hI.bel.mono HB3.out.size)
    obtain ⟨b, off, av, kv, rfl, hblt, c0, c1, c2, c3, c4, c5, hav, hkv⟩ := HCS.out j hj
    replace c0 := (hbW.cell (p := ⟨b, off + j * 6, none⟩) hblt).trans c0
    replace c1 := (hbW.cell (p := ⟨b, off + j * 6 + 1, none⟩) hblt).trans c1
    replace c2 := (hbW.cell (p := ⟨b, off + j * 6 + 2, none⟩) hblt).trans c2
    replace c3 := (hbW.cell (p := ⟨b, off + j * 6 + 3, none⟩) hblt).trans c3
    replace c4 := (hbW.cell (p := ⟨b, off + j * 6 + 4, none⟩) hblt).trans c4
    replace c5 := (hbW.cell (p := ⟨b, off + j * 6 + 5, none⟩) hblt).trans c5
    have HAV := (show Hid (Sv 2 W av (pairCells ns[j].attrs)) from hav.below hbW)
    have hnf := HFIT.out ns[j] (List.getElem_mem hj)
    have hal := aloneAt_at hj
    obtain ⟨av1, av2, av3, rfl, _⟩ := hav
    obtain ⟨kv1, kv3, rfl, _⟩ := hkv
    have hpar : parOf ns j = ns[j].parent := parOf_at hj
    have HBW := (show Hid (Below w.heap.size w W) from hbW)
    obtain ⟨nd, hnd⟩ : ∃ nd, nd = ns[j] := ⟨_, rfl⟩
    rw [← hnd] at c0 c1 c3 c4 c5 HAV hnf hal hpar
    obtain ⟨k0', k1', rs', k3', k4', ks'⟩ := nd
    simp only [alone] at c0 c1 c3 c4 c5 HAV hal hpar
    have hrs := hnf.rs
    simp only at hrs
    obtain ⟨v0, qs, q1, q2, q3, q4⟩ := hI.own
    have hql : qs.length = pre.length := by have := congrArg List.length q4; rw [(tidyL_len ns pre).1] at this; simpa using this
    have cO := (one_cell hI.boxO).1
    have cT := (one_cell hI.boxT).1
    have cAW := (hI.bel.cell (p := ⟨w2.heap.size, 0, none⟩) (show w2.heap.size < w3.heap.size by omega)).trans cA
    have hWs := hI.bel.size
    have bd : Below W.heap.size W W.drew := below_drewN 1
    have CW := (show Hid _ from iadd_all (B := w3.heap.size) (a := w2.heap.size + 1) (w := W.drew) (v := v0) (qs := qs) ((bd.block _ (blk_lt q1)).trans q1) (q2.below bd) (Nat.le_trans hWs bd.size) (by omega) k0' k4' k1' k3' (kv1 := kv1) (kv2 := ks'.length) (kv3 := kv3) (HAV.out.below bd) hrs)
    have HI := (show Hid (TidyI w3 w2.heap.size ns pre W) from hI)
    have HQ3 := (show Hid (Apart qs) from q3)
    have HQ4 := (show Hid (qs.map (fun q => q.1) = (tidyL ns pre).1) from q4)
    have HQL := (show Hid (qs.length = pre.length) from hql)
    have HAL := (show Hid (aloneAt ns j = ⟨k0', k1', rs', k3', -1, []⟩) from hal)
    have HPX := (show Hid ((j : Int) = ((0 : Nat) : Int) ∨ ∃ p : Nat, p < ns.length ∧ parOf ns j = p) from hpx)
    have HPAR := (show Hid (parOf ns j = k4') from hpar)
    have HX := (show Hid (pre ++ [(j : Int)] <+: down ns ns.length 0) from hx)
    have HH1 := (show Hid (∀ j, S j ↔ j = w2.heap.size + 1 ∨ j = w2.heap.size + 1 + 1 + 1 + 1) from h1)
    have HQ1 := (show Hid _ from q1)
    have hji : (j : Int) < (ns.length : Int) := by omega
    have hj5 : j < 500 := by omega
    have hj5i : (j : Int) < 500 := by omega
    clear hnd hnf hal hpx hpar hbW hx hI h1 q1 q2 q3 q4 hql hxm hd bd
    gi_wp2
    refine region_first_round 9 (.int .i64 (j : Int)) (by kernel_rfl) (by kernel_rfl) (by kernel_rfl) (fun _ _ _ h => h) ⟨.inl ⟨by rfl, fun w => by rfl⟩, fun w => by rfl⟩ ?_
    intro x1 K1 hX1 hK1
    simp only [Act.put, List.setIfInBounds_toArray, List.set_cons_zero, List.set_cons_succ, Nat.reduceSub]
    have ne := One.any x1
    have e0 := fun n : One x1 => (show n.w.cell? ⟨b, off + j * 6, none⟩ = some (.int .i64 k0') by rw [n.eq, hX1.out]; exact c0)
    have e1 := fun n : One x1 => (show n.w.cell? ⟨b, off + j * 6 + 1, none⟩ = some (.string k1') by rw [n.eq, hX1.out]; exact c1)
    have e2 := fun n : One x1 => (show n.w.cell? ⟨b, off + j * 6 + 2, none⟩ = some (.slice av1 av2 av3) by rw [n.eq, hX1.out]; exact c2)
    have e3 := fun n : One x1 => (show n.w.cell? ⟨b, off + j * 6 + 3, none⟩ = some (.string k3') by rw [n.eq, hX1.out]; exact c3)
    have e4 := fun n : One x1 => (show n.w.cell? ⟨b, off + j * 6 + 4, none⟩ = some (.int .i64 k4') by rw [n.eq, hX1.out]; exact c4)
    have e5 := fun n : One x1 => (show n.w.cell? ⟨b, off + j * 6 + 5, none⟩ = some (.slice kv1 ks'.length kv3) by rw [n.eq, hX1.out]; exact c5)
    have eO := fun n : One x1 => (show n.w.cell? ⟨w2.heap.size + 1 + 1, 0, none⟩ = some (.pointer (some ⟨w2.heap.size, 0, none⟩)) by rw [n.eq, hX1.out]; exact cO)
    have eT := fun n : One x1 => (show n.w.cell? ⟨w2.heap.size + 1 + 1 + 1, 0, none⟩ = some (.pointer (some ⟨w2.heap.size + 1, 0, none⟩)) by rw [n.eq, hX1.out]; exact cT)
    have eA := fun n : One x1 => (show n.w.cell? ⟨w2.heap.size, 0, none⟩ = some (.slice (some ⟨b, off, none⟩) ns.length cap) by rw [n.eq, hX1.out]; exact cAW)
    simp only [List.take_succ_cons, List.take_zero, List.drop_succ_cons, List.drop_zero] at hK1 ⊢
    repeat (go_big_quiet_step (fail))
    refine wpQuiet_nil ?_
    refine hK1.out _ ?_
    clear hK1 ne e0 e1 e2 e3 e4 e5 eO eT eA c0 c1 c2 c3 c5 cO cT cAW
    rw [← hX1.out] at CW
    gi_wp2
    refine ⟨trivial, (fun h => by cases h), (callsIn_wide.2 CW.out).mono ?_⟩
    rintro e w9 ⟨rfl, ⟨v9, ha9, av9, o9⟩, fr9⟩
    have bd : Below W.heap.size W x1 := by rw [hX1.out]; exact below_drewN 1
    clear CW hX1
    have hWl : w2.heap.size + 1 + 1 + 1 + 1 < W.heap.size := blk_lt HI.out.place
    have pl1 := (bd.block _ (blk_lt HI.out.place)).trans HI.out.place
    have bo1 := (bd.block _ (blk_lt HI.out.boxO)).trans HI.out.boxO
    have bt1 := (bd.block _ (blk_lt HI.out.boxT)).trans HI.out.boxT
    have pl9 := fr9.box pl1 (by decide) (by omega)
    have bo9 := fr9.box bo1 (by decide) (by omega)
    have bt9 := fr9.box bt1 (by decide) (by omega)
    have b39 : Below w3.heap.size w3 w9 := (HI.out.bel.trans (bd.mono hWs)).trans (fr9.below (by omega) (by have := bd.size; omega))
    have hP5 := (tidyL_len ns pre).2
    obtain ⟨pc, pf⟩ := int_cell pl9 (k := j) (by omega)
    obtain ⟨W10, hW10⟩ : ∃ z, z = w9.setCell ⟨w2.heap.size + 1 + 1 + 1 + 1, j, none⟩ (.int .i64 (qs.length : Int)) := ⟨_, rfl⟩
    have gr10 : w9.grownBy W10 (some (w2.heap.size + 1 + 1 + 1 + 1)) := by rw [hW10]; exact grown_setCell _ _ _ _
    have pl10 : W10.heap[w2.heap.size + 1 + 1 + 1 + 1]? = some (.cells (intCells ((tidyL ns pre).2.set j (qs.length : Int))) 99 (0, 0)) := by
      have := setCell_at (k := j) (u := Value.int .i64 (qs.length : Int)) pl9
      rw [int_set] at this
      rw [hW10]; exact this
    have bo10 := (gr10.block _ (blk_lt bo9) (fun e => by injection e with e; omega)).trans bo9
    have bt10 := (gr10.block _ (blk_lt bt9) (fun e => by injection e with e; omega)).trans bt9
    have ha10 := (gr10.block _ (blk_lt ha9) (fun e => by injection e with e; omega)).trans ha9
    have o10 := o9.kept gr10 (fun r e => by cases e; exact ⟨_, _, _, pl9, by decide, by decide, by decide⟩)
    have b310 : Below w3.heap.size w3 W10 := b39.grown gr10 b39.size (fun r e => by cases e; omega)
    have hS1 : ∀ k, S k → k < x1.heap.size := fun k hk => Nat.lt_of_lt_of_le (hSW k hk) bd.size
    have hS9 : ∀ k, S k → k < w9.heap.size := fun k hk => Nat.lt_of_lt_of_le (hS1 k hk) fr9.size
    have kz10 : Kz w3.heap.size TreeT S S W W10 := by
      refine ((Kz.of_below bd hSW).trans (kz_add fr9 hS1 ((HH1.out _).mpr (.inl rfl)) (by omega) ((bd.block _ (blk_lt HQ1.out)).trans HQ1.out))).trans ?_
      rw [hW10]
      exact kz_set hS9 ((HH1.out _).mpr (.inr rfl)) (by omega) pl9
    have ap10 : Apart (qs ++ [((⟨k0', k1', rs', k3', -1, []⟩, (av9, .slice none 0 0)) : PNode × (Value × Value))]) := apart_snoc HQ3.out (fun g e => by cases e)
    have hm10 : (qs ++ [((⟨k0', k1', rs', k3', -1, []⟩, (av9, .slice none 0 0)) : PNode × (Value × Value))]).map (fun q => q.1) = (tidyL ns pre).1 ++ [aloneAt ns j] := by rw [List.map_append, HQ4.out, HAL.out]; rfl
    have hlen1 : (tidyL ns pre).1.length = qs.length := by rw [(tidyL_len ns pre).1]; exact HQL.out.symm
    have HM10 := (show Hid ((qs ++ [((⟨k0', k1', rs', k3', -1, []⟩, (av9, .slice none 0 0)) : PNode × (Value × Value))]).map (fun q => q.1) = (tidyL ns pre).1 ++ [aloneAt ns j]) from hm10)
    have HL1 := (show Hid ((tidyL ns pre).1.length = qs.length) from hlen1)
    have KZ := (show Hid (Kz w3.heap.size TreeT S S W W10) from kz10)
    have O10 := (show Hid (OwnQ w3.heap.size W10 v9 (qs ++ [((⟨k0', k1', rs', k3', -1, []⟩, (av9, .slice none 0 0)) : PNode × (Value × Value))])) from o10)
    have AP := (show Hid (Apart (qs ++ [((⟨k0', k1', rs', k3', -1, []⟩, (av9, .slice none 0 0)) : PNode × (Value × Value))])) from ap10)
    have HA10 := (show Hid _ from ha10)
    have PL := (show Hid _ from pl10)
    have BO := (show Hid _ from bo10)
    have BT := (show Hid _ from bt10)
    have B310 := (show Hid (Below w3.heap.size w3 W10) from b310)
    have hS10 : ∀ k, S k → k < W10.heap.size := fun k hk => Nat.lt_of_lt_of_le (hS9 k hk) gr10.size
    have c4d : W10.cell? ⟨b, off + j * 6 + 4, none⟩ = some (.int .i64 k4') := ((HB3.out.trans (B310.out.mono HB3.out.size)).cell (p := ⟨b, off + j * 6 + 4, none⟩) hblt).trans ((HBW.out.cell (p := ⟨b, off + j * 6 + 4, none⟩) hblt).symm.trans c4)
    clear hm10 hlen1 kz10 o10 ap10 ha10 pl10 bo10 bt10 b310 gr10 fr9 o9 ha9 pl9 bo9 bt9 pl1 bo1 bt1 b39 bd hS9 hS1
    by_cases hj0 : j = 0
    · subst hj0
      have END := (show Hid (∃ S', Kz (w2.heap.size + 1) TreeT S S' W W10 ∧ (∀ j, S' j ↔ j = w2.heap.size + 1 ∨ j = w2.heap.size + 1 + 1 + 1 + 1) ∧ TidyI w3 w2.heap.size ns (pre ++ [((0 : Nat) : Int)]) W10) from ⟨S, by rw [← hs3]; exact KZ.out, HH1.out, ⟨v9, _, HA10.out, O10.out, AP.out, by rw [HM10.out, tidyL_snoc, tidyStep_zero]⟩, by rw [tidyL_snoc, tidyStep_zero]; simp only []; rw [HL1.out]; exact PL.out, BO.out, BT.out, B310.out⟩)
      clear KZ O10 AP HA10 PL BO BT B310
      gi_wp2
      rw [← hW10]
      simpa using END.out
    · have hnz : pre ≠ [] := pre_first HX.out (by omega)
      have hq0 : 0 < qs.length := by have := HQL.out; have : pre.length ≠ 0 := fun e => hnz (List.length_eq_zero_iff.mp e); omega
      obtain ⟨p, hpn, hpp⟩ : ∃ p : Nat, p < ns.length ∧ parOf ns j = p := by
        rcases HPX.out with e | e
        · omega
        · exact e
      have hk4 : k4' = (p : Int) := HPAR.out.symm.trans hpp
      subst hk4
      obtain ⟨g9, cap9, rfl, hg9, hgl9⟩ := OwnQ.form O10.out (by simp)
      have hP5' : ((tidyL ns pre).2.set j (qs.length : Int)).length = 500 := by rw [List.length_set]; exact hP5
      obtain ⟨pcj, _⟩ := int_cell PL.out (k := j) (by omega)
      obtain ⟨pcp, _⟩ := int_cell PL.out (k := p) (by omega)
      have hgj : ((tidyL ns pre).2.set j (qs.length : Int)).getD j 0 = (qs.length : Int) := by
        rw [List.getD_eq_getElem?_getD, List.getElem?_set_self (by omega)]; rfl
      have hpv : 0 ≤ ((tidyL ns pre).2.set j (qs.length : Int)).getD p 0 ∧ ((tidyL ns pre).2.set j (qs.length : Int)).getD p 0 < qs.length + 1 := by
        have := tidyL_place ns (pre ++ [(j : Int)]) p
        rw [tidyL_snoc, tidyStep_pos ns _ hj0] at this
        simp only [HL1.out, List.length_append, List.length_cons, List.length_nil] at this
        have := HQL.out
        omega
      obtain ⟨pv, hpve⟩ : ∃ z : Nat, ((tidyL ns pre).2.set j (qs.length : Int)).getD p 0 = (z : Int) := ⟨(((tidyL ns pre).2.set j (qs.length : Int)).getD p 0).toNat, by omega⟩
      rw [hgj] at pcj
      have HSN := (show Hid (tidyL ns (pre ++ [(j : Int)]) = (hangN ((tidyL ns pre).1 ++ [aloneAt ns j]) qs.length pv, (tidyL ns pre).2.set j (qs.length : Int))) from (show _ = _ by
        rw [tidyL_snoc, tidyStep_pos ns _ hj0, HL1.out, hpp]
        simp only [Int.toNat_natCast]
        rw [hpve]
        simp))
      rw [hpve] at pcp hpv
      have hql5 : qs.length ≤ 499 := by have := HQL.out; omega
      have hqs1 : (qs ++ [((⟨k0', k1', rs', k3', -1, []⟩, (av9, .slice none 0 0)) : PNode × (Value × Value))]).length = qs.length + 1 := by simp
      have hkl : ∀ q ∈ qs ++ [((⟨k0', k1', rs', k3', -1, []⟩, (av9, .slice none 0 0)) : PNode × (Value × Value))], q.1.kids.length ≤ 1048576 := by
        intro q hq
        rcases List.mem_append.mp hq with hq | hq
        · have hm : q.1 ∈ (tidyL ns pre).1 := by rw [← HQ4.out]; exact List.mem_map.mpr ⟨q, hq, rfl⟩
          have := tidyL_kids ns pre _ hm
          omega
        · rw [List.mem_singleton.mp hq]; simp
      have b1d : Below W10.heap.size W10 W10.drew := below_drewN 1
      have hB10 := B310.out.size
      have CH := (show Hid _ from ihang_any (B := w3.heap.size) (a := w2.heap.size + 1) (g := g9) (cap := cap9) (w := W10.drew) ((b1d.block _ (blk_lt HA10.out)).trans HA10.out) (O10.out.below b1d) AP.out (Nat.le_trans hB10 b1d.size) (by rw [hqs1]; omega) (c := qs.length) (by rw [hqs1]; omega) (by omega) (.inl (by simp)) hkl (p := pv) (by rw [hqs1]; omega))
      have cO := (one_cell BO.out).1
      have cT := (one_cell BT.out).1
      have cAW := (B310.out.cell (p := ⟨w2.heap.size, 0, none⟩) (show w2.heap.size < w3.heap.size by omega)).trans cA
      have hpi : (p : Int) < 500 := by omega
      clear hkl hgj hpve hP5 hP5' HPX HPAR hpp b1d
      gi_wp2
      rw [← hW10]
      clear hW10
      refine region_tail_round 14 (by kernel_rfl) (by kernel_rfl) (by kernel_rfl) ?_
      intro x2 K2 hX2 hK2
      have ne := One.any x2
      have e4 := fun n : One x2 => (show n.w.cell? ⟨b, off + j * 6 + 4, none⟩ = some (.int .i64 (p : Int)) by rw [n.eq, hX2.out]; exact c4d)
      have eO := fun n : One x2 => (show n.w.cell? ⟨w2.heap.size + 1 + 1, 0, none⟩ = some (.pointer (some ⟨w2.heap.size, 0, none⟩)) by rw [n.eq, hX2.out]; exact cO)
      have eT := fun n : One x2 => (show n.w.cell? ⟨w2.heap.size + 1 + 1 + 1, 0, none⟩ = some (.pointer (some ⟨w2.heap.size + 1, 0, none⟩)) by rw [n.eq, hX2.out]; exact cT)
      have eA := fun n : One x2 => (show n.w.cell? ⟨w2.heap.size, 0, none⟩ = some (.slice (some ⟨b, off, none⟩) ns.length cap) by rw [n.eq, hX2.out]; exact cAW)
      have eJ := fun n : One x2 => (show n.w.cell? ⟨w2.heap.size + 1 + 1 + 1 + 1, j, none⟩ = some (.int .i64 (qs.length : Int)) by rw [n.eq, hX2.out]; exact pcj)
      have eP := fun n : One x2 => (show n.w.cell? ⟨w2.heap.size + 1 + 1 + 1 + 1, p, none⟩ = some (.int .i64 (pv : Int)) by rw [n.eq, hX2.out]; exact pcp)
      simp only [List.take_succ_cons, List.take_zero, List.drop_succ_cons, List.drop_zero] at hK2 ⊢
      repeat (go_big_quiet_step (fail))
      refine wpQuiet_nil ?_
      refine hK2.out _ ?_
      clear hK2 ne e4 eO eT eA eJ eP
      rw [← hX2.out] at CH
      gi_wp2
      refine ⟨trivial, (fun h => by cases h), ?_⟩
      refine (CallsIn.inRound l (callsIn_wide.2 CH.out)).mono ?_
      rintro e w12 ⟨rfl, ⟨qs12, hm12, o12, a12⟩, t12⟩
      have b2 : Below W10.heap.size W10 x2 := by rw [hX2.out]; exact below_drewN 1
      clear CH hX2
      have hS2 : ∀ k, S k → k < x2.heap.size := fun k hk => Nat.lt_of_lt_of_le (hS10 k hk) b2.size
      have ox := O10.out.below b2
      have oth : ∀ k, k < x2.heap.size → (k < w3.heap.size ∨ ∀ cs t fr, x2.heap[k]? = some (.cells cs t fr) → t ≠ 36 ∧ t ≠ 3) → w12.heap[k]? = x2.heap[k]? := fun k hk hh => t12.other (v := .nilFunc) ox hk hh
      have key : ∀ {k : Nat} {cs : Array Value} {t : TypeId} {fr : Nat × Nat}, W10.heap[k]? = some (.cells cs t fr) → t ≠ 36 → t ≠ 3 → w12.heap[k]? = some (.cells cs t fr) := fun hk h1 h2 => by
        have hx := (b2.block _ (blk_lt hk)).trans hk
        rw [oth _ (blk_lt hx) (.inr (fun cs' t' fr' e => by rw [hx] at e; cases e; exact ⟨h1, h2⟩))]
        exact hx
      have b312 : Below w3.heap.size w3 w12 := by
        have hb := B310.out.trans (b2.mono hB10)
        exact ⟨t12.os.trans hb.os, t12.tape.trans hb.tape, t12.output.trans hb.output, Nat.le_trans hb.size t12.size, fun k hk => (oth k (Nat.lt_of_lt_of_le hk hb.size) (.inl hk)).trans (hb.block k hk)⟩
      have kz12 := (KZ.out.trans (Kz.of_below b2 hS10)).trans (kz_turn t12 ox hS2)
      have END := (show Hid (∃ S', Kz (w2.heap.size + 1) TreeT S S' W w12 ∧ (∀ j, S' j ↔ j = w2.heap.size + 1 ∨ j = w2.heap.size + 1 + 1 + 1 + 1) ∧ TidyI w3 w2.heap.size ns (pre ++ [(j : Int)]) w12) from ⟨S, by rw [← hs3]; exact kz12, HH1.out, ⟨_, qs12, key HA10.out (by decide) (by decide), o12, a12, by rw [hm12, HM10.out, HSN.out]⟩, by rw [HSN.out]; exact key PL.out (by decide) (by decide), key BO.out (by decide) (by decide), key BT.out (by decide) (by decide), b312⟩)
      clear kz12 key oth ox b312 t12 o12 a12 hm12 b2 hS2
      gi_wp2
      simpa using END.out
  case done =>
    rintro D S' Wd hD ⟨h1, hI⟩ hKd hDD
    obtain ⟨v0, qs, q1, q2, q3, q4⟩ := hI.own
    have hq0 : 0 < qs.length := by
      have h6 := congrArg List.length q4
      rw [(tidyL_len ns _).1] at h6
      have : 0 < (down ns ns.length 0).length := by
        obtain ⟨f, hf⟩ : ∃ f, ns.length = f + 1 := ⟨ns.length - 1, by omega⟩
        rw [hf]; simp [down]
      have h7 : (qs.map (fun q => q.1)).length = qs.length := by simp
      omega
    obtain ⟨g9, cap9, rfl, _, _⟩ := OwnQ.form q2 hq0
    have cT := (one_cell hI.boxT).1
    have hrd : Wd.heap[w.heap.size + 1]? = some (.cells #[.slice none 0 0] 26 (0, 0)) := (hI.bel.block _ (by omega)).trans HR3.out
    have CT := (show Hid _ from itree_any q1)
    have HQ2 := (show Hid (OwnQ w3.heap.size Wd (.slice (some ⟨g9, 0, none⟩) qs.length cap9) qs) from q2)
    have HQ4 := (show Hid (qs.map (fun q => q.1) = tidyN ns) from q4)
    have HBD := (show Hid (Below w.heap.size w Wd) from HB3.out.trans (hI.bel.mono HB3.out.size))
    have HRD := (show Hid _ from hrd)
    have hrl := blk_lt hrd
    clear q1 q2 q3 q4 hI hrd h1 hKd
    gi_wp2
    refine ⟨trivial, (callsIn_wide.2 CT.out).mono ?_⟩
    rintro e we ⟨rfl, be⟩
    have hre := (be.block _ hrl).trans HRD.out
    obtain ⟨cr, fr2⟩ := one_cell hre
    have hDe : we.heap[D]? = some (.deferred (some [])) := (be.block D (blk_lt hDD)).trans hDD
    have HE := (show Hid (Below w.heap.size w we) from HBD.out.trans (be.mono HBD.out.size))
    have HDE := (show Hid (we.heap[D]? = some (.deferred (some []))) from hDe)
    have HQE := (show Hid (OwnQ w3.heap.size we (.slice (some ⟨g9, 0, none⟩) qs.length cap9) qs) from HQ2.out.below be)
    have HRE := (show Hid _ from hre)
    have hDw : w.heap.size + 1 < D := by omega
    clear be hre hDe CT
    gi_wp2
    have hDs : (we.setCell ⟨w.heap.size + 1, 0, none⟩ (.slice (some ⟨g9, 0, none⟩) qs.length cap9)).heap[D]? = some (.deferred (some [])) := (Below.heap_setCell _ _ _ D (by show D ≠ w.heap.size + 1; omega)).trans HDE.out
    refine leaves_dmarks (by simp) w.heap.size [D] _ (by simp) (fun d hd => by simp only [List.mem_cons, List.not_mem_nil, or_false] at hd; subst hd; exact ⟨by omega, hDs⟩) ?_
    intro w' bw kw
    have hcell := kw _ _ (setCell_at (k := 0) (u := .slice (some ⟨g9, 0, none⟩) qs.length cap9) HRE.out) rfl
    have hgs : we.grownBy (we.setCell ⟨w.heap.size + 1, 0, none⟩ (.slice (some ⟨g9, 0, none⟩) qs.length cap9)) (some (w.heap.size + 1)) := grown_setCell _ _ _ _
    have o1 := HQE.out.kept hgs (fun r e => by cases e; exact ⟨_, _, _, HRE.out, by decide, by decide, by decide⟩)
    have keep : ∀ {B e size n : Nat} {v : Value} {xs : List Value}, (we.setCell ⟨w.heap.size + 1, 0, none⟩ (.slice (some ⟨g9, 0, none⟩) qs.length cap9)).ownsRow B e size v n xs → w'.ownsRow B e size v n xs := fun h => by
      refine ⟨h.1, ?_⟩
      rcases h.2 with h2 | ⟨g, cap, cur, e1, e2, e3, e4⟩
      · exact .inl h2
      · exact .inr ⟨g, cap, cur, e1, e2, kw _ _ e3 rfl, e4⟩
    have o2 : OwnQ w3.heap.size w' (.slice (some ⟨g9, 0, none⟩) qs.length cap9) qs := ⟨keep o1.1, fun q hq => ⟨keep (o1.2 q hq).1, keep (o1.2 q hq).2⟩⟩
    refine ⟨_, results_cell_row rfl _ _ (w.heap.size + 1) 26 #[.slice (some ⟨g9, 0, none⟩) qs.length cap9] (0, 0) _ rfl hcell Tryz.underlying26 rfl rfl, _, rfl, fun _ => ?_, fun h => absurd HT.out h, ?_⟩
    · have := (o2.base (B' := w.heap.size) HB3.out.size).n
      rwa [HQ4.out] at this
    · exact (HE.out.setCell (p := ⟨w.heap.size + 1, 0, none⟩) (by simp) _).trans bw
end Go.Proofs.YtogdbjafibejdaaGreat

/- The laws' helper that copies a tree. No condition. -/
namespace Go.Proofs.YtogdbjafibejdaaGreat
open Go.RowKit
set_option maxRecDepth 100000
set_option linter.unusedVariables false
end Go.Proofs.YtogdbjafibejdaaGreat

/- The program's take and hang where they are refused; the steps of TreeHang and TreeTake; arenaOf. No condition. -/
namespace Go.Proofs.YtogdbjafibejdaaGreat
open Go.RowKit
set_option maxRecDepth 100000
set_option linter.unusedVariables false
end Go.Proofs.YtogdbjafibejdaaGreat

/- The laws' helper that holds two trees against each other, where they are alike. No condition. -/
namespace Go.Proofs.YtogdbjafibejdaaGreat
open Go.RowKit
set_option maxRecDepth 100000
set_option linter.unusedVariables false

set_option maxHeartbeats 2000000 in
set_option maxRecDepth 100000 in
theorem eqNode_same {n : PNode} {va vk ua uk : Value} {w : World} (ha : Sv 2 w va (pairCells n.attrs)) (hk : Sl .i64 w vk n.kids) (ka : Sv 2 w ua (pairCells n.attrs)) (kk : Sl .i64 w uk n.kids) (hal : n.attrs.length ≤ 1048576) (hkl : n.kids.length ≤ 1048576) :
    Calls Tryz.prog 145 #[.agg #[.int .i64 n.kind, .string n.name, va, .string n.text, .int .i64 n.parent, vk], .agg #[.int .i64 n.kind, .string n.name, ua, .string n.text, .int .i64 n.parent, uk]] w fun e w' => e = .returned (.bool true) ∧ Below w.heap.size w w' := by
  have HA := (show Hid (Sv 2 w va (pairCells n.attrs)) from ha)
  have HK := (show Hid (Sl .i64 w vk n.kids) from hk)
  have KA := (show Hid (Sv 2 w ua (pairCells n.attrs)) from ka)
  have KK := (show Hid (Sl .i64 w uk n.kids) from kk)
  obtain ⟨a1, c1, rfl, _, _, _⟩ := ha.pair
  obtain ⟨a2, c2, rfl, _, _, _⟩ := hk
  obtain ⟨a3, c3, rfl, _, _, _⟩ := ka.pair
  obtain ⟨a4, c4, rfl, _, _, _⟩ := kk
  obtain ⟨nk, nm, rs, tx, pa, ks⟩ := n
  simp only at hal hkl HA HK KA KK ⊢
  clear ha ka
  obtain ⟨w2, hw2⟩ : ∃ z, z = (w.alloc (.cells #[.int .i64 nk, .string nm, .slice a1 rs.length c1, .string tx, .int .i64 pa, .slice a2 ks.length c2] 36)).alloc (.cells #[.int .i64 nk, .string nm, .slice a3 rs.length c3, .string tx, .int .i64 pa, .slice a4 ks.length c4] 36) := ⟨_, rfl⟩
  have s2 : w2.heap.size = w.heap.size + 2 := by rw [hw2]; simp [World.size_alloc]
  have b2 : Below w.heap.size w w2 := by rw [hw2]; exact ((Below.refl _ _).alloc (Nat.le_refl _) _).alloc (by simp) _
  have g0 : w2.heap[w.heap.size]? = some (.cells #[.int .i64 nk, .string nm, .slice a1 rs.length c1, .string tx, .int .i64 pa, .slice a2 ks.length c2] 36 (0, 0)) := by rw [hw2, Below.heap_alloc _ _ _ (by simp)]; exact World.alloc_heap_new _ _
  have g1 : w2.heap[w.heap.size + 1]? = some (.cells #[.int .i64 nk, .string nm, .slice a3 rs.length c3, .string tx, .int .i64 pa, .slice a4 ks.length c4] 36 (0, 0)) := by
    rw [hw2]
    have := World.alloc_heap_new (w.alloc (.cells #[.int .i64 nk, .string nm, .slice a1 rs.length c1, .string tx, .int .i64 pa, .slice a2 ks.length c2] 36)) (.cells #[.int .i64 nk, .string nm, .slice a3 rs.length c3, .string tx, .int .i64 pa, .slice a4 ks.length c4] 36)
    rw [World.size_alloc] at this
    exact this
  have HW := (show Hid (w2 = _) from hw2)
  have B2 := (show Hid (Below w.heap.size w w2) from b2)
  have CA := (show Hid (Calls Tryz.prog 178 #[.slice a1 rs.length c1, .slice a3 rs.length c3] w2 fun e w' => e = .returned (.bool true) ∧ Below w2.heap.size w2 w') from (eqAttrS_any (HA.out.below b2) (KA.out.below b2) (by omega) (by omega)).mono (by rintro e w' ⟨rfl, b⟩; exact ⟨by simp, b⟩))
  have CI := (show Hid (∀ W, Below w2.heap.size w2 W → Calls Tryz.prog 179 #[.slice a2 ks.length c2, .slice a4 ks.length c4] W fun e w' => e = .returned (.bool true) ∧ Below W.heap.size W w') from fun W b => (eqI_any ((HK.out.below b2).below b) ((KK.out.below b2).below b) (by omega) (by omega)).mono (by rintro e w' ⟨rfl, b⟩; exact ⟨by simp, b⟩))
  have G0 := (show Hid _ from g0)
  have G1 := (show Hid _ from g1)
  clear hw2 b2 g0 g1 HA HK KA KK
  go_enter Tryz.func145, Tryz.ntmps145
  go_wp2_with fail
  go_at_call 178
  rw [← HW.out]
  refine Calls.mono CA.out ?_
  rintro e w3 ⟨rfl, b3⟩
  clear CA HW
  have g0 := (b3.block _ (by omega)).trans G0.out
  have g1 := (b3.block _ (by omega)).trans G1.out
  have s3 := b3.size
  have B3 := (show Hid (Below w2.heap.size w2 w3) from b3)
  obtain ⟨d3, d4, d5⟩ : w3.cell? ⟨w.heap.size, 3, none⟩ = some (.string tx) ∧ w3.cell? ⟨w.heap.size, 4, none⟩ = some (.int .i64 pa) ∧ w3.cell? ⟨w.heap.size, 5, none⟩ = some (.slice a2 ks.length c2) := ⟨by simp only [World.cell?, g0]; rfl, by simp only [World.cell?, g0]; rfl, by simp only [World.cell?, g0]; rfl⟩
  obtain ⟨e3, e4, e5⟩ : w3.cell? ⟨w.heap.size + 1, 3, none⟩ = some (.string tx) ∧ w3.cell? ⟨w.heap.size + 1, 4, none⟩ = some (.int .i64 pa) ∧ w3.cell? ⟨w.heap.size + 1, 5, none⟩ = some (.slice a4 ks.length c4) := ⟨by simp only [World.cell?, g1]; rfl, by simp only [World.cell?, g1]; rfl, by simp only [World.cell?, g1]; rfl⟩
  have z0 : w.heap.size < w3.heap.size := by omega
  have z1 : w.heap.size + 1 < w3.heap.size := by omega
  clear g0 g1 b3 G0 G1
  go_wp2_with fail
  go_at_call 179
  refine Calls.mono (CI.out _ B3.out) ?_
  rintro e w4 ⟨rfl, b4⟩
  have B4 := (show Hid (Below w.heap.size w w4) from B2.out.trans ((B3.out.trans (b4.mono B3.out.size)).mono B2.out.size))
  clear b4 CI d3 d4 d5 e3 e4 e5
  go_wp2
  go_ret
  exact ⟨rfl, B4.out⟩
end Go.Proofs.YtogdbjafibejdaaGreat

/- The program's TreeHang and TreeTake. No condition. -/
namespace Go.Proofs.YtogdbjafibejdaaGreat
open Go.RowKit
set_option maxRecDepth 100000
set_option linter.unusedVariables false
theorem kids_few {ns : List PNode} (h : TreeOkP ns) : ∀ n ∈ ns, n.kids.length ≤ ns.length := by
  intro n hn
  obtain ⟨i, hi, rfl⟩ := List.getElem_of_mem hn
  have hf := h.fit i hi
  rw [kidsOf_at hi] at hf
  exact nodup_le _ _ hf.1 (fun x hx => by have := hf.2 x hx; omega)
end Go.Proofs.YtogdbjafibejdaaGreat

/- The laws' helper that holds two trees against each other, where they are alike: the nodes, the tree. No condition. -/
namespace Go.Proofs.YtogdbjafibejdaaGreat
open Go.RowKit
set_option maxRecDepth 100000
set_option linter.unusedVariables false

set_option maxHeartbeats 2000000 in
set_option maxRecDepth 100000 in
theorem eqNodeS_same {v u : Value} {ns : List PNode} {w : World} (h : NodesAt w v ns) (k : NodesAt w u ns) (hfit : ∀ n ∈ ns, NodeFit n) (hlen : ns.length ≤ 1048576) :
    Calls Tryz.prog 100 #[v, u] w fun e w' => e = .returned (.bool true) ∧ Below w.heap.size w w' := by
  have HFIT := (show Hid (∀ n ∈ ns, NodeFit n) from hfit)
  obtain ⟨a, ca, rfl, _, _, hca⟩ := h.slice
  obtain ⟨b, cb, rfl, _, _, hcb⟩ := k.slice
  have HCA := (show Hid _ from hca)
  have HCB := (show Hid _ from hcb)
  clear h k hfit hca hcb
  have ne := Wd.any w.heap.size w
  go_enter Tryz.func100, Tryz.ntmps100
  go_wp2
  go_loopw [5] (fun i wr => ∃ k : Nat, k ≤ ns.length ∧ i = .int .i64 k ∧ Below w.heap.size w wr) (fun i _ => ns.length - (intOf i).toNat)
  case atStart => exact ⟨0, Nat.zero_le _, rfl, Below.refl _ _⟩
  case round =>
    obtain ⟨k, hk, rfl, hb⟩ := hrel
    by_cases hlt : k < ns.length
    · obtain ⟨b1, o1, av, kv, rfl, l1, c0, c1, c2, c3, c4, c5, sa, sk⟩ := HCA.out k hlt
      obtain ⟨b2, o2, bv, lv, rfl, l2, d0, d1, d2, d3, d4, d5, ta, tk⟩ := HCB.out k hlt
      have hnf := HFIT.out ns[k] (List.getElem_mem hlt)
      have CC := (show Hid (∀ m : Wd w.heap.size w, Calls Tryz.prog 145 #[.agg #[.int .i64 ns[k].kind, .string ns[k].name, av, .string ns[k].text, .int .i64 ns[k].parent, kv], .agg #[.int .i64 ns[k].kind, .string ns[k].name, bv, .string ns[k].text, .int .i64 ns[k].parent, lv]] m.w fun e w' => e = .returned (.bool true) ∧ Below m.w.heap.size m.w w') from fun m => eqNode_same (sa.below m.below) (sk.below m.below) (ta.below m.below) (tk.below m.below) hnf.rs hnf.kl)
      obtain ⟨x, hx⟩ : ∃ x, x = ns[k] := ⟨_, rfl⟩
      rw [← hx] at c0 c1 c3 c4 d0 d1 d3 d4 CC
      have A0 : ∀ m : Wd w.heap.size w, m.w.cell? ⟨b1, o1 + k * 6, none⟩ = some (.int .i64 x.kind) := fun m => (m.below.cell (p := ⟨b1, o1 + k * 6, none⟩) l1).trans c0
      have A1 : ∀ m : Wd w.heap.size w, m.w.cell? ⟨b1, o1 + k * 6 + 1, none⟩ = some (.string x.name) := fun m => (m.below.cell (p := ⟨b1, o1 + k * 6 + 1, none⟩) l1).trans c1
      have A2 : ∀ m : Wd w.heap.size w, m.w.cell? ⟨b1, o1 + k * 6 + 2, none⟩ = some av := fun m => (m.below.cell (p := ⟨b1, o1 + k * 6 + 2, none⟩) l1).trans c2
      have A3 : ∀ m : Wd w.heap.size w, m.w.cell? ⟨b1, o1 + k * 6 + 3, none⟩ = some (.string x.text) := fun m => (m.below.cell (p := ⟨b1, o1 + k * 6 + 3, none⟩) l1).trans c3
      have A4 : ∀ m : Wd w.heap.size w, m.w.cell? ⟨b1, o1 + k * 6 + 4, none⟩ = some (.int .i64 x.parent) := fun m => (m.below.cell (p := ⟨b1, o1 + k * 6 + 4, none⟩) l1).trans c4
      have A5 : ∀ m : Wd w.heap.size w, m.w.cell? ⟨b1, o1 + k * 6 + 5, none⟩ = some kv := fun m => (m.below.cell (p := ⟨b1, o1 + k * 6 + 5, none⟩) l1).trans c5
      have E0 : ∀ m : Wd w.heap.size w, m.w.cell? ⟨b2, o2 + k * 6, none⟩ = some (.int .i64 x.kind) := fun m => (m.below.cell (p := ⟨b2, o2 + k * 6, none⟩) l2).trans d0
      have E1 : ∀ m : Wd w.heap.size w, m.w.cell? ⟨b2, o2 + k * 6 + 1, none⟩ = some (.string x.name) := fun m => (m.below.cell (p := ⟨b2, o2 + k * 6 + 1, none⟩) l2).trans d1
      have E2 : ∀ m : Wd w.heap.size w, m.w.cell? ⟨b2, o2 + k * 6 + 2, none⟩ = some bv := fun m => (m.below.cell (p := ⟨b2, o2 + k * 6 + 2, none⟩) l2).trans d2
      have E3 : ∀ m : Wd w.heap.size w, m.w.cell? ⟨b2, o2 + k * 6 + 3, none⟩ = some (.string x.text) := fun m => (m.below.cell (p := ⟨b2, o2 + k * 6 + 3, none⟩) l2).trans d3
      have E4 : ∀ m : Wd w.heap.size w, m.w.cell? ⟨b2, o2 + k * 6 + 4, none⟩ = some (.int .i64 x.parent) := fun m => (m.below.cell (p := ⟨b2, o2 + k * 6 + 4, none⟩) l2).trans d4
      have E5 : ∀ m : Wd w.heap.size w, m.w.cell? ⟨b2, o2 + k * 6 + 5, none⟩ = some lv := fun m => (m.below.cell (p := ⟨b2, o2 + k * 6 + 5, none⟩) l2).trans d5
      clear c0 c1 c2 c3 c4 c5 d0 d1 d2 d3 d4 d5 sa sk ta tk hx hnf HFIT
      go_wp2
      refine wp_region_below (by kernel_rfl) (by kernel_rfl) hb ?_
      repeat (go_big_quiet_step ((go_at_call 145; exact quiet_below (CC.out _) (Nat.le_refl _))))
      refine wpQuiet_nil ?_
      intro wq hq
      replace hq := Wd.of hq
      clear A0 A1 A2 A3 A4 A5 E0 E1 E2 E3 E4 E5 CC
      go_wp2
      go_roundw
      case rel => exact ⟨k + 1, by omega, by go_num, hq⟩
      case measure => simp [intOf]; omega
    · go_wp2
      go_ret
      exact ⟨rfl, hb⟩

set_option maxHeartbeats 2000000 in
theorem eqTree_same {v u : Value} {ns : List PNode} {w : World} (h : NodesAt w v ns) (k : NodesAt w u ns) (hfit : ∀ n ∈ ns, NodeFit n) (hlen : ns.length ≤ 1048576) :
    Calls Tryz.prog 38 #[.agg #[v], .agg #[u]] w fun e w' => e = .returned (.bool true) ∧ Below w.heap.size w w' := by
  have h' := h
  have k' := k
  obtain ⟨a, ca, rfl, _, _, _⟩ := h.slice
  obtain ⟨b, cb, rfl, _, _, _⟩ := k.slice
  obtain ⟨w2, hw2⟩ : ∃ z, z = (w.alloc (.cells #[.slice a ns.length ca] 26)).alloc (.cells #[.slice b ns.length cb] 26) := ⟨_, rfl⟩
  have b2 : Below w.heap.size w w2 := by rw [hw2]; exact ((Below.refl _ _).alloc (Nat.le_refl _) _).alloc (by simp) _
  have CS := (show Hid (Calls Tryz.prog 100 #[.slice a ns.length ca, .slice b ns.length cb] w2 _) from eqNodeS_same (h'.below b2) (k'.below b2) hfit hlen)
  have B2 := (show Hid (Below w.heap.size w w2) from b2)
  have HW := (show Hid (w2 = _) from hw2)
  clear hw2 b2 h k h' k'
  go_enter Tryz.func38, Tryz.ntmps38
  go_wp2_with fail
  go_at_call 100
  rw [← HW.out]
  refine Calls.mono CS.out ?_
  rintro e w3 ⟨rfl, b3⟩
  have B3 := (show Hid (Below w.heap.size w w3) from B2.out.trans (b3.mono B2.out.size))
  clear CS b3
  go_wp2
  go_ret
  exact ⟨rfl, B3.out⟩
end Go.Proofs.YtogdbjafibejdaaGreat

/- When a text is written below a node, in plain words. No condition. -/
namespace Go.Proofs.YtogdbjafibejdaaGreat
open Go.RowKit
set_option maxRecDepth 100000
set_option linter.unusedVariables false
theorem utf_size {s : ByteArray} (h : utfOk (bs s) = true) : s.size ≤ 3000 := by
  apply Classical.byContradiction
  intro hn
  rw [utfOk_no (by rw [bs_len]; exact hn)] at h
  cases h
end Go.Proofs.YtogdbjafibejdaaGreat

/- The rows of a tree of the call's own while one of its lists is marked. No condition. -/
namespace Go.Proofs.YtogdbjafibejdaaGreat
open Go.RowKit
set_option maxRecDepth 100000
set_option linter.unusedVariables false

theorem nodeCells_same {qs : List (PNode × (Value × Value))} {c : Nat} (hc : c < qs.length) {q : PNode × (Value × Value)} (h : nodeRow q.1 q.2 = nodeRow qs[c].1 qs[c].2) : nodeCells (qs.set c q) = nodeCells qs := by
  unfold nodeCells
  rw [List.flatMap_def, List.flatMap_def, List.map_set]
  congr 1
  rw [h]
  apply List.ext_getElem?
  intro i
  by_cases e : c = i
  · subst e
    rw [List.getElem?_set_self (by simpa using hc)]
    simp [hc]
  · rw [List.getElem?_set_ne e]
theorem ownRow_type {B e size n g : Nat} {w : World} {v : Value} {xs : List Value} (h : w.ownsRow B e size v n xs) (hg : v.ownBlock = some g) : ∃ cs fr, w.heap[g]? = some (.cells cs e fr) := by
  obtain ⟨_, ⟨rfl, _⟩ | ⟨g', cap, cur, rfl, _, hh, _⟩⟩ := h
  · cases hg
  · cases hg
    exact ⟨_, _, hh⟩
def attrsQ (q : PNode × (Value × Value)) (rs : List (ByteArray × ByteArray)) : PNode × (Value × Value) := (⟨q.1.kind, q.1.name, rs, q.1.text, q.1.parent, q.1.kids⟩, q.2)
def kidsQ (q : PNode × (Value × Value)) (ks : List Int) : PNode × (Value × Value) := (⟨q.1.kind, q.1.name, q.1.attrs, q.1.text, q.1.parent, ks⟩, q.2)

theorem OwnQ.markA {B : Nat} {w w' : World} {v : Value} {qs : List (PNode × (Value × Value))} (h : OwnQ B w v qs) (ap : ApartA qs) {c : Nat} (hc : c < qs.length) {rs : List (ByteArray × ByteArray)} (hg : w.grownBy w' qs[c].2.1.ownBlock)
    (ho : w'.ownsRow B 115 2 qs[c].2.1 rs.length (pairCells rs)) : OwnQ B w' v (qs.set c (attrsQ qs[c] rs)) := by
  have hty : ∀ r, qs[c].2.1.ownBlock = some r → ∃ cs fr, w.heap[r]? = some (.cells cs 115 fr) := fun r e => ownRow_type (h.2 _ (List.getElem_mem hc)).1 e
  refine ⟨?_, fun q hq => ?_⟩
  · rw [List.length_set, nodeCells_same hc (q := attrsQ qs[c] rs) rfl]
    exact kept_of_type h.1 hg (fun r e => by obtain ⟨cs, fr, hh⟩ := hty r e; exact ⟨_, _, _, hh, by decide⟩)
  · obtain ⟨i, hi, rfl⟩ := List.getElem_of_mem hq
    rw [List.length_set] at hi
    rw [List.getElem_set]
    have hk : ∀ k (hk : k < qs.length), Own B 3 .i64 w' qs[k].2.2 qs[k].1.kids := fun k hk => kept_of_type (h.2 _ (List.getElem_mem hk)).2 hg (fun r e => by obtain ⟨cs, fr, hh⟩ := hty r e; exact ⟨_, _, _, hh, by decide⟩)
    split
    · exact ⟨ho, hk c hc⟩
    · rename_i hne
      refine ⟨World.ownsRow.kept (h.2 _ (List.getElem_mem hi)).1 hg ?_, hk i hi⟩
      cases e : qs[i].2.1.ownBlock with
      | none => exact .inl rfl
      | some r => exact .inr (fun e' => hne (ap c i hc hi r e'.symm e))
theorem OwnQ.markK {B : Nat} {w w' : World} {v : Value} {qs : List (PNode × (Value × Value))} (h : OwnQ B w v qs) (ap : Apart qs) {c : Nat} (hc : c < qs.length) {ks : List Int} (hg : w.grownBy w' qs[c].2.2.ownBlock)
    (ho : Own B 3 .i64 w' qs[c].2.2 ks) : OwnQ B w' v (qs.set c (kidsQ qs[c] ks)) := by
  have hty : ∀ r, qs[c].2.2.ownBlock = some r → ∃ cs fr, w.heap[r]? = some (.cells cs 3 fr) := fun r e => ownRow_type (h.2 _ (List.getElem_mem hc)).2 e
  refine ⟨?_, fun q hq => ?_⟩
  · rw [List.length_set, nodeCells_same hc (q := kidsQ qs[c] ks) rfl]
    exact kept_of_type h.1 hg (fun r e => by obtain ⟨cs, fr, hh⟩ := hty r e; exact ⟨_, _, _, hh, by decide⟩)
  · obtain ⟨i, hi, rfl⟩ := List.getElem_of_mem hq
    rw [List.length_set] at hi
    rw [List.getElem_set]
    have hk : ∀ k (hk : k < qs.length), w'.ownsRow B 115 2 qs[k].2.1 qs[k].1.attrs.length (pairCells qs[k].1.attrs) := fun k hk => kept_of_type (h.2 _ (List.getElem_mem hk)).1 hg (fun r e => by obtain ⟨cs, fr, hh⟩ := hty r e; exact ⟨_, _, _, hh, by decide⟩)
    split
    · exact ⟨hk c hc, ho⟩
    · rename_i hne
      refine ⟨hk i hi, World.ownsRow.kept (h.2 _ (List.getElem_mem hi)).2 hg ?_⟩
      cases e : qs[i].2.2.ownBlock with
      | none => exact .inl rfl
      | some r => exact .inr (fun e' => hne (ap c i hc hi r e'.symm e))
end Go.Proofs.YtogdbjafibejdaaGreat
