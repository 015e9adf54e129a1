/- The laws' helper that copies a tree. No condition. -/
import Derived.Test.YtogdbjafibejdaaGreatX36
import Derived.Test.YtogdbjafibejdaaGreatX18
import Derived.Test.YtogdbjafibejdaaGreatX31
import Derived.Test.YtogdbjafibejdaaGreatX20
import Derived.Test.YtogdbjafibejdaaGreatX34
import Derived.Test.YtogdbjafibejdaaGreatX29
import Derived.Test.YtogdbjafibejdaaGreatX16
import Derived.Test.YtogdbjafibejdaaGreatX17
import Derived.Test.YtogdbjafibejdaaGreatX30
import Derived.Test.YtogdbjafibejdaaGreatX33
namespace Go.Proofs.YtogdbjafibejdaaGreat
open Go.RowKit
set_option maxRecDepth 100000
set_option linter.unusedVariables false

theorem ownQ_past {B : Nat} {w w' : World} {v : Value} {qs : List (PNode × (Value × Value))} {r : Nat} (h : OwnQ B w v qs) (hg : w.grownBy w' (some r))
    (hr : ∃ cs t fr, w.heap[r]? = some (.cells cs t fr) ∧ t ≠ 36 ∧ t ≠ 115 ∧ t ≠ 3) : OwnQ B w' v qs := by
  obtain ⟨a, b, c, d, e1, e2, e3⟩ := hr
  exact ⟨kept_of_type h.1 hg (fun r e => by cases e; exact ⟨a, b, c, d, e1⟩), fun q hq => ⟨kept_of_type (h.2 q hq).1 hg (fun r e => by cases e; exact ⟨a, b, c, d, e2⟩), kept_of_type (h.2 q hq).2 hg (fun r e => by cases e; exact ⟨a, b, c, d, e3⟩)⟩⟩
set_option maxHeartbeats 2000000 in
set_option maxRecDepth 100000 in
theorem toTree_any {w : World} {v : Value} {ns : List PNode} (hn : NodesAt w v ns) (hfit : ∀ n ∈ ns, NodeFit n) (hlen : ns.length ≤ 1048576) :
    Calls Tryz.prog 36 #[.agg #[v]] w fun e w' => ∃ v' qs, e = .returned (.agg #[v']) ∧ qs.map (fun q => q.1) = ns ∧ OwnQ w.heap.size w' v' qs ∧ Apart qs ∧ ApartA qs ∧ Below w.heap.size w w' := by
  have h' := hn
  obtain ⟨a, ca, rfl, hc1, hc2, _⟩ := hn.slice
  obtain ⟨w3, hw3⟩ : ∃ z, z = ((w.alloc (.cells #[.slice a ns.length ca] 53)).alloc (.cells #[.slice none 0 0] 26)).alloc (.cells #[.slice none 0 0] 26) := ⟨_, rfl⟩
  have s3 : w3.heap.size = w.heap.size + 3 := by rw [hw3]; simp [World.size_alloc]
  have b3 : Below w.heap.size w w3 := by rw [hw3]; exact (((Below.refl _ _).alloc (Nat.le_refl _) _).alloc (by simp) _).alloc (by simp; omega) _
  have gr : w3.heap[w.heap.size + 1]? = some (.cells #[.slice none 0 0] 26 (0, 0)) := by
    rw [hw3, Below.heap_alloc _ _ _ (by simp)]
    have := World.alloc_heap_new (w.alloc (.cells #[.slice a ns.length ca] 53)) (.cells #[.slice none 0 0] 26)
    rw [World.size_alloc] at this
    exact this
  have go : w3.heap[w.heap.size + 1 + 1]? = some (.cells #[.slice none 0 0] 26 (0, 0)) := by
    rw [hw3]
    have := World.alloc_heap_new ((w.alloc (.cells #[.slice a ns.length ca] 53)).alloc (.cells #[.slice none 0 0] 26)) (.cells #[.slice none 0 0] 26)
    rw [World.size_alloc, World.size_alloc] at this
    exact this
  have HW := (show Hid (w3 = _) from hw3)
  have B3 := (show Hid (Below w.heap.size w w3) from b3)
  have CS := (show Hid _ from toNodeS_any (h'.below b3) hfit hlen)
  clear hw3 b3 h' hn
  go_enter Tryz.func36, Tryz.ntmps36
  go_wp2_with fail
  go_at_call 99
  rw [← HW.out]
  refine Calls.mono CS.out ?_
  rintro e w4 ⟨v', qs, rfl, hqm, o4, ap, apa, b4⟩
  clear CS HW
  obtain ⟨x1, x3, rfl, _, _, _⟩ := o4.n.nodes.slice
  have g4r := (b4.block _ (by omega)).trans gr
  have g4o := (b4.block _ (by omega)).trans go
  have s4 := b4.size
  have B4 := (show Hid (Below w.heap.size w w4) from B3.out.trans (b4.mono B3.out.size))
  have HA := (show Hid (qs.map (fun q => q.1) = ns ∧ Apart qs ∧ ApartA qs) from ⟨hqm, ap, apa⟩)
  have O4 := (show Hid (OwnQ w3.heap.size w4 _ qs) from o4)
  have G4R := (show Hid _ from g4r)
  have G4O := (show Hid _ from g4o)
  obtain ⟨co, fo⟩ := six_one g4o
  obtain ⟨cr, fr⟩ := six_one g4r
  have z4 : w.heap.size + 1 + 1 < w4.heap.size := by omega
  clear gr go g4r g4o o4 ap apa hqm b4
  go_wp2_with fail
  have g5 := grown_setCell w4 (w.heap.size + 1 + 1) 0 (.slice x1 qs.length x3)
  have g5r := (g5.block (w.heap.size + 1) (by omega) (fun e => by simp only [Option.some.injEq] at e; omega)).trans G4R.out
  have gs := setCell_at (k := 0) (u := .slice x1 qs.length x3) g5r
  have g6 := grown_setCell (w4.setCell ⟨w.heap.size + 1 + 1, 0, none⟩ (.slice x1 qs.length x3)) (w.heap.size + 1) 0 (.slice x1 qs.length x3)
  have O6 := ownQ_past (ownQ_past O4.out g5 ⟨_, _, _, G4O.out, by decide, by decide, by decide⟩) g6 ⟨_, _, _, g5r, by decide, by decide, by decide⟩
  have hB : w.heap.size ≤ w3.heap.size := by omega
  have O7 := O6.base hB
  rw [List.length_map] at O7
  refine bodyPost_ret (results_cell_row rfl _ _ (w.heap.size + 1) 26 _ (0, 0) _ rfl gs Tryz.underlying26 rfl rfl) rfl ?_
  exact ⟨_, qs, rfl, HA.out.1, O7, HA.out.2.1, HA.out.2.2, (B4.out.grown g5 (by omega) (fun r e => by cases e; omega)).grown g6 (by have := g5.size; have := B4.out.size; omega) (fun r e => by cases e; omega)⟩
end Go.Proofs.YtogdbjafibejdaaGreat

/- The program's take and hang where they are refused; the steps of TreeHang and TreeTake; arenaOf. No condition. -/
namespace Go.Proofs.YtogdbjafibejdaaGreat
open Go.RowKit
set_option maxRecDepth 100000
set_option linter.unusedVariables false
end Go.Proofs.YtogdbjafibejdaaGreat

/- The laws' helper that holds two trees against each other, where they are alike. No condition. -/
namespace Go.Proofs.YtogdbjafibejdaaGreat
open Go.RowKit
set_option maxRecDepth 100000
set_option linter.unusedVariables false

set_option maxHeartbeats 2000000 in
set_option maxRecDepth 100000 in
theorem eqNode_same {n : PNode} {va vk ua uk : Value} {w : World} (ha : Sv 2 w va (pairCells n.attrs)) (hk : Sl .i64 w vk n.kids) (ka : Sv 2 w ua (pairCells n.attrs)) (kk : Sl .i64 w uk n.kids) (hal : n.attrs.length ≤ 1048576) (hkl : n.kids.length ≤ 1048576) :
    Calls Tryz.prog 145 #[.agg #[.int .i64 n.kind, .string n.name, va, .string n.text, .int .i64 n.parent, vk], .agg #[.int .i64 n.kind, .string n.name, ua, .string n.text, .int .i64 n.parent, uk]] w fun e w' => e = .returned (.bool true) ∧ Below w.heap.size w w' := by
  have HA := (show Hid (Sv 2 w va (pairCells n.attrs)) from ha)
  have HK := (show Hid (Sl .i64 w vk n.kids) from hk)
  have KA := (show Hid (Sv 2 w ua (pairCells n.attrs)) from ka)
  have KK := (show Hid (Sl .i64 w uk n.kids) from kk)
  obtain ⟨a1, c1, rfl, _, _, _⟩ := ha.pair
  obtain ⟨a2, c2, rfl, _, _, _⟩ := hk
  obtain ⟨a3, c3, rfl, _, _, _⟩ := ka.pair
  obtain ⟨a4, c4, rfl, _, _, _⟩ := kk
  obtain ⟨nk, nm, rs, tx, pa, ks⟩ := n
  simp only at hal hkl HA HK KA KK ⊢
  clear ha ka
  obtain ⟨w2, hw2⟩ : ∃ z, z = (w.alloc (.cells #[.int .i64 nk, .string nm, .slice a1 rs.length c1, .string tx, .int .i64 pa, .slice a2 ks.length c2] 36)).alloc (.cells #[.int .i64 nk, .string nm, .slice a3 rs.length c3, .string tx, .int .i64 pa, .slice a4 ks.length c4] 36) := ⟨_, rfl⟩
  have s2 : w2.heap.size = w.heap.size + 2 := by rw [hw2]; simp [World.size_alloc]
  have b2 : Below w.heap.size w w2 := by rw [hw2]; exact ((Below.refl _ _).alloc (Nat.le_refl _) _).alloc (by simp) _
  have g0 : w2.heap[w.heap.size]? = some (.cells #[.int .i64 nk, .string nm, .slice a1 rs.length c1, .string tx, .int .i64 pa, .slice a2 ks.length c2] 36 (0, 0)) := by rw [hw2, Below.heap_alloc _ _ _ (by simp)]; exact World.alloc_heap_new _ _
  have g1 : w2.heap[w.heap.size + 1]? = some (.cells #[.int .i64 nk, .string nm, .slice a3 rs.length c3, .string tx, .int .i64 pa, .slice a4 ks.length c4] 36 (0, 0)) := by
    rw [hw2]
    have := World.alloc_heap_new (w.alloc (.cells #[.int .i64 nk, .string nm, .slice a1 rs.length c1, .string tx, .int .i64 pa, .slice a2 ks.length c2] 36)) (.cells #[.int .i64 nk, .string nm, .slice a3 rs.length c3, .string tx, .int .i64 pa, .slice a4 ks.length c4] 36)
    rw [World.size_alloc] at this
    exact this
  have HW := (show Hid (w2 = _) from hw2)
  have B2 := (show Hid (Below w.heap.size w w2) from b2)
  have CA := (show Hid (Calls Tryz.prog 178 #[.slice a1 rs.length c1, .slice a3 rs.length c3] w2 fun e w' => e = .returned (.bool true) ∧ Below w2.heap.size w2 w') from (eqAttrS_any (HA.out.below b2) (KA.out.below b2) (by omega) (by omega)).mono (by rintro e w' ⟨rfl, b⟩; exact ⟨by simp, b⟩))
  have CI := (show Hid (∀ W, Below w2.heap.size w2 W → Calls Tryz.prog 179 #[.slice a2 ks.length c2, .slice a4 ks.length c4] W fun e w' => e = .returned (.bool true) ∧ Below W.heap.size W w') from fun W b => (eqI_any ((HK.out.below b2).below b) ((KK.out.below b2).below b) (by omega) (by omega)).mono (by rintro e w' ⟨rfl, b⟩; exact ⟨by simp, b⟩))
  have G0 := (show Hid _ from g0)
  have G1 := (show Hid _ from g1)
  clear hw2 b2 g0 g1 HA HK KA KK
  go_enter Tryz.func145, Tryz.ntmps145
  go_wp2_with fail
  go_at_call 178
  rw [← HW.out]
  refine Calls.mono CA.out ?_
  rintro e w3 ⟨rfl, b3⟩
  clear CA HW
  have g0 := (b3.block _ (by omega)).trans G0.out
  have g1 := (b3.block _ (by omega)).trans G1.out
  have s3 := b3.size
  have B3 := (show Hid (Below w2.heap.size w2 w3) from b3)
  obtain ⟨d3, d4, d5⟩ : w3.cell? ⟨w.heap.size, 3, none⟩ = some (.string tx) ∧ w3.cell? ⟨w.heap.size, 4, none⟩ = some (.int .i64 pa) ∧ w3.cell? ⟨w.heap.size, 5, none⟩ = some (.slice a2 ks.length c2) := ⟨by simp only [World.cell?, g0]; rfl, by simp only [World.cell?, g0]; rfl, by simp only [World.cell?, g0]; rfl⟩
  obtain ⟨e3, e4, e5⟩ : w3.cell? ⟨w.heap.size + 1, 3, none⟩ = some (.string tx) ∧ w3.cell? ⟨w.heap.size + 1, 4, none⟩ = some (.int .i64 pa) ∧ w3.cell? ⟨w.heap.size + 1, 5, none⟩ = some (.slice a4 ks.length c4) := ⟨by simp only [World.cell?, g1]; rfl, by simp only [World.cell?, g1]; rfl, by simp only [World.cell?, g1]; rfl⟩
  have z0 : w.heap.size < w3.heap.size := by omega
  have z1 : w.heap.size + 1 < w3.heap.size := by omega
  clear g0 g1 b3 G0 G1
  go_wp2_with fail
  go_at_call 179
  refine Calls.mono (CI.out _ B3.out) ?_
  rintro e w4 ⟨rfl, b4⟩
  have B4 := (show Hid (Below w.heap.size w w4) from B2.out.trans ((B3.out.trans (b4.mono B3.out.size)).mono B2.out.size))
  clear b4 CI d3 d4 d5 e3 e4 e5
  go_wp2
  go_ret
  exact ⟨rfl, B4.out⟩
end Go.Proofs.YtogdbjafibejdaaGreat

/- The program's TreeHang and TreeTake. No condition. -/
namespace Go.Proofs.YtogdbjafibejdaaGreat
open Go.RowKit
set_option maxRecDepth 100000
set_option linter.unusedVariables false
theorem kids_few {ns : List PNode} (h : TreeOkP ns) : ∀ n ∈ ns, n.kids.length ≤ ns.length := by
  intro n hn
  obtain ⟨i, hi, rfl⟩ := List.getElem_of_mem hn
  have hf := h.fit i hi
  rw [kidsOf_at hi] at hf
  exact nodup_le _ _ hf.1 (fun x hx => by have := hf.2 x hx; omega)
end Go.Proofs.YtogdbjafibejdaaGreat

/- The laws' helper that holds two trees against each other, where they are alike: the nodes, the tree. No condition. -/
namespace Go.Proofs.YtogdbjafibejdaaGreat
open Go.RowKit
set_option maxRecDepth 100000
set_option linter.unusedVariables false

set_option maxHeartbeats 2000000 in
set_option maxRecDepth 100000 in
theorem eqNodeS_same {v u : Value} {ns : List PNode} {w : World} (h : NodesAt w v ns) (k : NodesAt w u ns) (hfit : ∀ n ∈ ns, NodeFit n) (hlen : ns.length ≤ 1048576) :
    Calls Tryz.prog 100 #[v, u] w fun e w' => e = .returned (.bool true) ∧ Below w.heap.size w w' := by
  have HFIT := (show Hid (∀ n ∈ ns, NodeFit n) from hfit)
  obtain ⟨a, ca, rfl, _, _, hca⟩ := h.slice
  obtain ⟨b, cb, rfl, _, _, hcb⟩ := k.slice
  have HCA := (show Hid _ from hca)
  have HCB := (show Hid _ from hcb)
  clear h k hfit hca hcb
  have ne := Wd.any w.heap.size w
  go_enter Tryz.func100, Tryz.ntmps100
  go_wp2
  go_loopw [5] (fun i wr => ∃ k : Nat, k ≤ ns.length ∧ i = .int .i64 k ∧ Below w.heap.size w wr) (fun i _ => ns.length - (intOf i).toNat)
  case atStart => exact ⟨0, Nat.zero_le _, rfl, Below.refl _ _⟩
  case round =>
    obtain ⟨k, hk, rfl, hb⟩ := hrel
    by_cases hlt : k < ns.length
    · obtain ⟨b1, o1, av, kv, rfl, l1, c0, c1, c2, c3, c4, c5, sa, sk⟩ := HCA.out k hlt
      obtain ⟨b2, o2, bv, lv, rfl, l2, d0, d1, d2, d3, d4, d5, ta, tk⟩ := HCB.out k hlt
      have hnf := HFIT.out ns[k] (List.getElem_mem hlt)
      have CC := (show Hid (∀ m : Wd w.heap.size w, Calls Tryz.prog 145 #[.agg #[.int .i64 ns[k].kind, .string ns[k].name, av, .string ns[k].text, .int .i64 ns[k].parent, kv], .agg #[.int .i64 ns[k].kind, .string ns[k].name, bv, .string ns[k].text, .int .i64 ns[k].parent, lv]] m.w fun e w' => e = .returned (.bool true) ∧ Below m.w.heap.size m.w w') from fun m => eqNode_same (sa.below m.below) (sk.below m.below) (ta.below m.below) (tk.below m.below) hnf.rs hnf.kl)
      obtain ⟨x, hx⟩ : ∃ x, x = ns[k] := ⟨_, rfl⟩
      rw [← hx] at c0 c1 c3 c4 d0 d1 d3 d4 CC
      have A0 : ∀ m : Wd w.heap.size w, m.w.cell? ⟨b1, o1 + k * 6, none⟩ = some (.int .i64 x.kind) := fun m => (m.below.cell (p := ⟨b1, o1 + k * 6, none⟩) l1).trans c0
      have A1 : ∀ m : Wd w.heap.size w, m.w.cell? ⟨b1, o1 + k * 6 + 1, none⟩ = some (.string x.name) := fun m => (m.below.cell (p := ⟨b1, o1 + k * 6 + 1, none⟩) l1).trans c1
      have A2 : ∀ m : Wd w.heap.size w, m.w.cell? ⟨b1, o1 + k * 6 + 2, none⟩ = some av := fun m => (m.below.cell (p := ⟨b1, o1 + k * 6 + 2, none⟩) l1).trans c2
      have A3 : ∀ m : Wd w.heap.size w, m.w.cell? ⟨b1, o1 + k * 6 + 3, none⟩ = some (.string x.text) := fun m => (m.below.cell (p := ⟨b1, o1 + k * 6 + 3, none⟩) l1).trans c3
      have A4 : ∀ m : Wd w.heap.size w, m.w.cell? ⟨b1, o1 + k * 6 + 4, none⟩ = some (.int .i64 x.parent) := fun m => (m.below.cell (p := ⟨b1, o1 + k * 6 + 4, none⟩) l1).trans c4
      have A5 : ∀ m : Wd w.heap.size w, m.w.cell? ⟨b1, o1 + k * 6 + 5, none⟩ = some kv := fun m => (m.below.cell (p := ⟨b1, o1 + k * 6 + 5, none⟩) l1).trans c5
      have E0 : ∀ m : Wd w.heap.size w, m.w.cell? ⟨b2, o2 + k * 6, none⟩ = some (.int .i64 x.kind) := fun m => (m.below.cell (p := ⟨b2, o2 + k * 6, none⟩) l2).trans d0
      have E1 : ∀ m : Wd w.heap.size w, m.w.cell? ⟨b2, o2 + k * 6 + 1, none⟩ = some (.string x.name) := fun m => (m.below.cell (p := ⟨b2, o2 + k * 6 + 1, none⟩) l2).trans d1
      have E2 : ∀ m : Wd w.heap.size w, m.w.cell? ⟨b2, o2 + k * 6 + 2, none⟩ = some bv := fun m => (m.below.cell (p := ⟨b2, o2 + k * 6 + 2, none⟩) l2).trans d2
      have E3 : ∀ m : Wd w.heap.size w, m.w.cell? ⟨b2, o2 + k * 6 + 3, none⟩ = some (.string x.text) := fun m => (m.below.cell (p := ⟨b2, o2 + k * 6 + 3, none⟩) l2).trans d3
      have E4 : ∀ m : Wd w.heap.size w, m.w.cell? ⟨b2, o2 + k * 6 + 4, none⟩ = some (.int .i64 x.parent) := fun m => (m.below.cell (p := ⟨b2, o2 + k * 6 + 4, none⟩) l2).trans d4
      have E5 : ∀ m : Wd w.heap.size w, m.w.cell? ⟨b2, o2 + k * 6 + 5, none⟩ = some lv := fun m => (m.below.cell (p := ⟨b2, o2 + k * 6 + 5, none⟩) l2).trans d5
      clear c0 c1 c2 c3 c4 c5 d0 d1 d2 d3 d4 d5 sa sk ta tk hx hnf HFIT
      go_wp2
      refine wp_region_below (by kernel_rfl) (by kernel_rfl) hb ?_
      repeat (go_big_quiet_step ((go_at_call 145; exact quiet_below (CC.out _) (Nat.le_refl _))))
      refine wpQuiet_nil ?_
      intro wq hq
      replace hq := Wd.of hq
      clear A0 A1 A2 A3 A4 A5 E0 E1 E2 E3 E4 E5 CC
      go_wp2
      go_roundw
      case rel => exact ⟨k + 1, by omega, by go_num, hq⟩
      case measure => simp [intOf]; omega
    · go_wp2
      go_ret
      exact ⟨rfl, hb⟩

set_option maxHeartbeats 2000000 in
theorem eqTree_same {v u : Value} {ns : List PNode} {w : World} (h : NodesAt w v ns) (k : NodesAt w u ns) (hfit : ∀ n ∈ ns, NodeFit n) (hlen : ns.length ≤ 1048576) :
    Calls Tryz.prog 38 #[.agg #[v], .agg #[u]] w fun e w' => e = .returned (.bool true) ∧ Below w.heap.size w w' := by
  have h' := h
  have k' := k
  obtain ⟨a, ca, rfl, _, _, _⟩ := h.slice
  obtain ⟨b, cb, rfl, _, _, _⟩ := k.slice
  obtain ⟨w2, hw2⟩ : ∃ z, z = (w.alloc (.cells #[.slice a ns.length ca] 26)).alloc (.cells #[.slice b ns.length cb] 26) := ⟨_, rfl⟩
  have b2 : Below w.heap.size w w2 := by rw [hw2]; exact ((Below.refl _ _).alloc (Nat.le_refl _) _).alloc (by simp) _
  have CS := (show Hid (Calls Tryz.prog 100 #[.slice a ns.length ca, .slice b ns.length cb] w2 _) from eqNodeS_same (h'.below b2) (k'.below b2) hfit hlen)
  have B2 := (show Hid (Below w.heap.size w w2) from b2)
  have HW := (show Hid (w2 = _) from hw2)
  clear hw2 b2 h k h' k'
  go_enter Tryz.func38, Tryz.ntmps38
  go_wp2_with fail
  go_at_call 100
  rw [← HW.out]
  refine Calls.mono CS.out ?_
  rintro e w3 ⟨rfl, b3⟩
  have B3 := (show Hid (Below w.heap.size w w3) from B2.out.trans (b3.mono B2.out.size))
  clear CS b3
  go_wp2
  go_ret
  exact ⟨rfl, B3.out⟩
end Go.Proofs.YtogdbjafibejdaaGreat

/- When a text is written below a node, in plain words. No condition. -/
namespace Go.Proofs.YtogdbjafibejdaaGreat
open Go.RowKit
set_option maxRecDepth 100000
set_option linter.unusedVariables false
theorem utf_size {s : ByteArray} (h : utfOk (bs s) = true) : s.size ≤ 3000 := by
  apply Classical.byContradiction
  intro hn
  rw [utfOk_no (by rw [bs_len]; exact hn)] at h
  cases h
end Go.Proofs.YtogdbjafibejdaaGreat

/- The rows of a tree of the call's own while one of its lists is marked. No condition. -/
namespace Go.Proofs.YtogdbjafibejdaaGreat
open Go.RowKit
set_option maxRecDepth 100000
set_option linter.unusedVariables false

theorem nodeCells_same {qs : List (PNode × (Value × Value))} {c : Nat} (hc : c < qs.length) {q : PNode × (Value × Value)} (h : nodeRow q.1 q.2 = nodeRow qs[c].1 qs[c].2) : nodeCells (qs.set c q) = nodeCells qs := by
  unfold nodeCells
  rw [List.flatMap_def, List.flatMap_def, List.map_set]
  congr 1
  rw [h]
  apply List.ext_getElem?
  intro i
  by_cases e : c = i
  · subst e
    rw [List.getElem?_set_self (by simpa using hc)]
    simp [hc]
  · rw [List.getElem?_set_ne e]
theorem ownRow_type {B e size n g : Nat} {w : World} {v : Value} {xs : List Value} (h : w.ownsRow B e size v n xs) (hg : v.ownBlock = some g) : ∃ cs fr, w.heap[g]? = some (.cells cs e fr) := by
  obtain ⟨_, ⟨rfl, _⟩ | ⟨g', cap, cur, rfl, _, hh, _⟩⟩ := h
  · cases hg
  · cases hg
    exact ⟨_, _, hh⟩
def attrsQ (q : PNode × (Value × Value)) (rs : List (ByteArray × ByteArray)) : PNode × (Value × Value) := (⟨q.1.kind, q.1.name, rs, q.1.text, q.1.parent, q.1.kids⟩, q.2)
def kidsQ (q : PNode × (Value × Value)) (ks : List Int) : PNode × (Value × Value) := (⟨q.1.kind, q.1.name, q.1.attrs, q.1.text, q.1.parent, ks⟩, q.2)

theorem OwnQ.markA {B : Nat} {w w' : World} {v : Value} {qs : List (PNode × (Value × Value))} (h : OwnQ B w v qs) (ap : ApartA qs) {c : Nat} (hc : c < qs.length) {rs : List (ByteArray × ByteArray)} (hg : w.grownBy w' qs[c].2.1.ownBlock)
    (ho : w'.ownsRow B 115 2 qs[c].2.1 rs.length (pairCells rs)) : OwnQ B w' v (qs.set c (attrsQ qs[c] rs)) := by
  have hty : ∀ r, qs[c].2.1.ownBlock = some r → ∃ cs fr, w.heap[r]? = some (.cells cs 115 fr) := fun r e => ownRow_type (h.2 _ (List.getElem_mem hc)).1 e
  refine ⟨?_, fun q hq => ?_⟩
  · rw [List.length_set, nodeCells_same hc (q := attrsQ qs[c] rs) rfl]
    exact kept_of_type h.1 hg (fun r e => by obtain ⟨cs, fr, hh⟩ := hty r e; exact ⟨_, _, _, hh, by decide⟩)
  · obtain ⟨i, hi, rfl⟩ := List.getElem_of_mem hq
    rw [List.length_set] at hi
    rw [List.getElem_set]
    have hk : ∀ k (hk : k < qs.length), Own B 3 .i64 w' qs[k].2.2 qs[k].1.kids := fun k hk => kept_of_type (h.2 _ (List.getElem_mem hk)).2 hg (fun r e => by obtain ⟨cs, fr, hh⟩ := hty r e; exact ⟨_, _, _, hh, by decide⟩)
    split
    · exact ⟨ho, hk c hc⟩
    · rename_i hne
      refine ⟨World.ownsRow.kept (h.2 _ (List.getElem_mem hi)).1 hg ?_, hk i hi⟩
      cases e : qs[i].2.1.ownBlock with
      | none => exact .inl rfl
      | some r => exact .inr (fun e' => hne (ap c i hc hi r e'.symm e))
theorem OwnQ.markK {B : Nat} {w w' : World} {v : Value} {qs : List (PNode × (Value × Value))} (h : OwnQ B w v qs) (ap : Apart qs) {c : Nat} (hc : c < qs.length) {ks : List Int} (hg : w.grownBy w' qs[c].2.2.ownBlock)
    (ho : Own B 3 .i64 w' qs[c].2.2 ks) : OwnQ B w' v (qs.set c (kidsQ qs[c] ks)) := by
  have hty : ∀ r, qs[c].2.2.ownBlock = some r → ∃ cs fr, w.heap[r]? = some (.cells cs 3 fr) := fun r e => ownRow_type (h.2 _ (List.getElem_mem hc)).2 e
  refine ⟨?_, fun q hq => ?_⟩
  · rw [List.length_set, nodeCells_same hc (q := kidsQ qs[c] ks) rfl]
    exact kept_of_type h.1 hg (fun r e => by obtain ⟨cs, fr, hh⟩ := hty r e; exact ⟨_, _, _, hh, by decide⟩)
  · obtain ⟨i, hi, rfl⟩ := List.getElem_of_mem hq
    rw [List.length_set] at hi
    rw [List.getElem_set]
    have hk : ∀ k (hk : k < qs.length), w'.ownsRow B 115 2 qs[k].2.1 qs[k].1.attrs.length (pairCells qs[k].1.attrs) := fun k hk => kept_of_type (h.2 _ (List.getElem_mem hk)).1 hg (fun r e => by obtain ⟨cs, fr, hh⟩ := hty r e; exact ⟨_, _, _, hh, by decide⟩)
    split
    · exact ⟨hk c hc, ho⟩
    · rename_i hne
      refine ⟨hk i hi, World.ownsRow.kept (h.2 _ (List.getElem_mem hi)).2 hg ?_⟩
      cases e : qs[i].2.2.ownBlock with
      | none => exact .inl rfl
      | some r => exact .inr (fun e' => hne (ap c i hc hi r e'.symm e))
end Go.Proofs.YtogdbjafibejdaaGreat

/- A tree as a page, in plain words. No condition. -/
namespace Go.Proofs.YtogdbjafibejdaaGreat
open Go.RowKit
set_option maxRecDepth 100000
set_option linter.unusedVariables false
structure SmallN (n : PNode) : Prop where
  nm : n.name.size ≤ 3000
  tx : n.text.size ≤ 3000
  rs : n.attrs.length ≤ 20
  each : ∀ p ∈ n.attrs, attrOk p = true
theorem small_of {n : PNode} {k : Nat} (h : goodB n k = true) : SmallN n := by
  unfold goodB at h
  rw [Bool.and_eq_true] at h
  have h := h.2
  unfold nodeB at h
  have e0 : ∀ s, empB s = true → s.size ≤ 3000 := fun s hs => by have := (empB_iff s).mp hs; omega
  have r0 : n.attrs.length = 0 → n.attrs.length ≤ 20 ∧ ∀ p ∈ n.attrs, attrOk p = true := fun hr => by
    have : n.attrs = [] := List.length_eq_zero_iff.mp hr
    rw [this]; simp
  split at h
  · simp only [Bool.and_eq_true, decide_eq_true_eq] at h
    exact ⟨e0 _ h.1.1, e0 _ h.2, (r0 h.1.2).1, (r0 h.1.2).2⟩
  split at h
  · simp only [Bool.and_eq_true, decide_eq_true_eq] at h
    obtain ⟨⟨⟨⟨h1, _⟩, h2⟩, h3⟩, _⟩ := h
    exact ⟨by omega, e0 _ h3, (r0 h2).1, (r0 h2).2⟩
  split at h
  · simp only [Bool.and_eq_true] at h
    obtain ⟨⟨h1, h2⟩, h3⟩ := h
    have hn : n.name.size ≤ 3000 := by
      unfold nameOk at h1
      simp only [Bool.and_eq_true] at h1
      exact utf_size h1.1.1.2
    unfold attrsOk attrsTo at h2
    simp only [Bool.and_eq_true, decide_eq_true_eq, List.all_eq_true] at h2
    exact ⟨hn, e0 _ h3, h2.1, h2.2.1⟩
  split at h
  · simp only [Bool.and_eq_true, decide_eq_true_eq] at h
    obtain ⟨⟨⟨⟨_, h1⟩, h2⟩, h3⟩, _⟩ := h
    exact ⟨e0 _ h2, utf_size h1, (r0 h3).1, (r0 h3).2⟩
  split at h
  · simp only [Bool.and_eq_true, decide_eq_true_eq] at h
    obtain ⟨⟨⟨h1, h2⟩, h3⟩, _⟩ := h
    exact ⟨e0 _ h2, utf_size h1, (r0 h3).1, (r0 h3).2⟩
  · cases h
theorem small_all {ns : List PNode} (h : TreeOkP ns) : ∀ k (hk : k < ns.length), SmallN ns[k] := fun k hk => small_of (h.good k hk)
end Go.Proofs.YtogdbjafibejdaaGreat

/- The laws' helper that marks a tree. No condition. -/
namespace Go.Proofs.YtogdbjafibejdaaGreat
open Go.RowKit
set_option maxRecDepth 100000
set_option linter.unusedVariables false

structure MkFr (B : Nat) (w w' : World) : Prop where
  os : w'.os = w.os
  tape : w'.tape = w.tape
  output : w'.output = w.output
  size : w.heap.size ≤ w'.heap.size
  block : ∀ i, i < w.heap.size → (i < B ∨ ∃ cs t fr, w.heap[i]? = some (.cells cs t fr) ∧ t ≠ 36 ∧ t ≠ 115 ∧ t ≠ 3) → w'.heap[i]? = w.heap[i]?
theorem MkFr.refl (B : Nat) (w : World) : MkFr B w w := ⟨rfl, rfl, rfl, Nat.le_refl _, fun _ _ _ => rfl⟩
theorem MkFr.trans {B : Nat} {a b c : World} (h : MkFr B a b) (k : MkFr B b c) : MkFr B a c :=
  ⟨k.os.trans h.os, k.tape.trans h.tape, k.output.trans h.output, Nat.le_trans h.size k.size, fun i hi hc => by
    have e := h.block i hi hc
    refine (k.block i (Nat.lt_of_lt_of_le hi h.size) ?_).trans e
    rcases hc with hc | ⟨cs, t, fr, hh, ht⟩
    · exact .inl hc
    · exact .inr ⟨cs, t, fr, e.trans hh, ht⟩⟩
theorem MkFr.of_below {B : Nat} {w w' : World} (h : Below w.heap.size w w') : MkFr B w w' := ⟨h.os, h.tape, h.output, h.size, fun i hi _ => h.block i hi⟩
theorem MkFr.of_row {B g : Nat} {w w' : World} (h : w.grownBy w' (some g)) (hB : B ≤ g) (ht : ∃ cs t fr, w.heap[g]? = some (.cells cs t fr) ∧ (t = 36 ∨ t = 115 ∨ t = 3)) : MkFr B w w' :=
  ⟨h.os, h.tape, h.output, h.size, fun i hi hc => h.block i hi (fun e => by
    cases e
    obtain ⟨cs, t, fr, hh, ht⟩ := ht
    rcases hc with hc | ⟨cs', t', fr', hh', h1, h2, h3⟩
    · omega
    · rw [hh] at hh'
      cases hh'
      rcases ht with e | e | e
      · exact h1 e
      · exact h2 e
      · exact h3 e)⟩
theorem MkFr.of_own {B e size n : Nat} {w w' : World} {v : Value} {xs : List Value} (o : w.ownsRow B e size v n xs) (h : w.grownBy w' v.ownBlock) (ht : e = 36 ∨ e = 115 ∨ e = 3) : MkFr B w w' := by
  cases hv : v.ownBlock with
  | none => rw [hv] at h; exact ⟨h.os, h.tape, h.output, h.size, fun i hi _ => h.block i hi (by simp)⟩
  | some g =>
    rw [hv] at h
    obtain ⟨cs, fr, hh⟩ := ownRow_type o hv
    exact .of_row h (World.ownsRow.lt o g hv).1 ⟨_, _, _, hh, ht⟩

def LikeQ (qs ps : List (PNode × (Value × Value))) : Prop := ps.map (fun q => (q.1.attrs.length, q.1.kids.length, q.2)) = qs.map (fun q => (q.1.attrs.length, q.1.kids.length, q.2))
theorem LikeQ.len {qs ps : List (PNode × (Value × Value))} (h : LikeQ qs ps) : ps.length = qs.length := by have := congrArg List.length h; simpa using this
theorem LikeQ.at {qs ps : List (PNode × (Value × Value))} (h : LikeQ qs ps) {k : Nat} (hk : k < ps.length) (hk' : k < qs.length) : ps[k].1.attrs.length = qs[k].1.attrs.length ∧ ps[k].1.kids.length = qs[k].1.kids.length ∧ ps[k].2 = qs[k].2 := by
  have e : (ps.map (fun q => (q.1.attrs.length, q.1.kids.length, q.2)))[k]? = (qs.map (fun q => (q.1.attrs.length, q.1.kids.length, q.2)))[k]? := by rw [h]
  simp only [List.getElem?_map, List.getElem?_eq_getElem hk, List.getElem?_eq_getElem hk', Option.map_some, Option.some.injEq, Prod.mk.injEq] at e
  exact ⟨e.1, e.2.1, e.2.2⟩
theorem LikeQ.set {qs ps : List (PNode × (Value × Value))} (h : LikeQ qs ps) {k : Nat} (hk : k < ps.length) {q : PNode × (Value × Value)} (hq : q.1.attrs.length = ps[k].1.attrs.length ∧ q.1.kids.length = ps[k].1.kids.length ∧ q.2 = ps[k].2) : LikeQ qs (ps.set k q) := by
  unfold LikeQ at h ⊢
  rw [← h, List.map_set]
  apply List.ext_getElem?
  intro i
  by_cases e : k = i
  · subst e
    rw [List.getElem?_set_self (by simpa using hk)]
    simp [hk, hq.1, hq.2.1, hq.2.2]
  · rw [List.getElem?_set_ne e]
theorem LikeQ.apart {qs ps : List (PNode × (Value × Value))} (h : LikeQ qs ps) (a : Apart qs) : Apart ps := fun i j hi hj g e1 e2 => by
  rw [(h.at hi (h.len ▸ hi)).2.2] at e1
  rw [(h.at hj (h.len ▸ hj)).2.2] at e2
  exact a i j _ _ g e1 e2
theorem LikeQ.apartA {qs ps : List (PNode × (Value × Value))} (h : LikeQ qs ps) (a : ApartA qs) : ApartA ps := fun i j hi hj g e1 e2 => by
  rw [(h.at hi (h.len ▸ hi)).2.2] at e1
  rw [(h.at hj (h.len ▸ hj)).2.2] at e2
  exact a i j _ _ g e1 e2
end Go.Proofs.YtogdbjafibejdaaGreat

/- What tidying makes, node by node, in plain words. No condition. -/
namespace Go.Proofs.YtogdbjafibejdaaGreat
open Go.RowKit
set_option maxRecDepth 100000
set_option linter.unusedVariables false

def posI : List Int → Int → Nat
  | [], _ => 0
  | a :: l, x => if a = x then 0 else posI l x + 1
theorem pos_at {x : Int} : ∀ {l : List Int}, x ∈ l → l[posI l x]? = some x
  | a :: l, h => by
    unfold posI
    by_cases e : a = x
    · rw [if_pos e, e]; rfl
    · rw [if_neg e]
      rcases List.mem_cons.mp h with h | h
      · exact absurd h.symm e
      · simpa using pos_at h
theorem pos_lt {x : Int} {l : List Int} (h : x ∈ l) : posI l x < l.length := by
  have := pos_at h
  exact (List.getElem?_eq_some_iff.mp this).1
theorem pos_app {x : Int} (r : List Int) : ∀ {l : List Int}, x ∉ l → posI (l ++ x :: r) x = l.length
  | [], _ => by simp [posI]
  | a :: l, h => by
    rw [List.cons_append, posI, if_neg (fun e => h (by simp [e])), pos_app r (fun hm => h (List.mem_cons_of_mem _ hm))]
    rfl
theorem pos_get {x : Int} : ∀ {l : List Int}, l.Nodup → ∀ {i : Nat}, l[i]? = some x → posI l x = i
  | [], _, i, h => by simp at h
  | a :: l, hn, 0, h => by
    have e : a = x := by simpa using h
    rw [posI, if_pos e]
  | a :: l, hn, i + 1, h => by
    have h' : l[i]? = some x := by simpa using h
    have hm : x ∈ l := by
      obtain ⟨hi, hx⟩ := List.getElem?_eq_some_iff.mp h'
      rw [← hx]; exact List.getElem_mem hi
    have hne : ¬ a = x := fun e => (List.nodup_cons.mp hn).1 (e ▸ hm)
    rw [posI, if_neg hne, pos_get (List.nodup_cons.mp hn).2 h']
theorem pos_inj {x y : Int} {l : List Int} (hx : x ∈ l) (hy : y ∈ l) (h : posI l x = posI l y) : x = y := by
  have h1 := pos_at hx
  rw [h, pos_at hy] at h1
  exact (Option.some.inj h1).symm

theorem sub_flat {g : Int → List Int} : ∀ {L : List Int}, (∀ y ∈ L, ∃ t, g y = y :: t) → L.Sublist (L.flatMap g)
  | [], _ => List.Sublist.refl _
  | a :: L, h => by
    obtain ⟨t, ht⟩ := h a (by simp)
    rw [List.flatMap_cons, ht, List.cons_append]
    exact ((sub_flat (fun y hy => h y (by simp [hy]))).trans (List.sublist_append_right t _)).cons_cons a
theorem mem_flat_sub {g : Int → List Int} {y : Int} : ∀ {L : List Int}, y ∈ L → (g y).Sublist (L.flatMap g)
  | a :: L, h => by
    rw [List.flatMap_cons]
    rcases List.mem_cons.mp h with rfl | h
    · exact List.sublist_append_left _ _
    · exact (mem_flat_sub h).trans (List.sublist_append_right _ _)
theorem down_head {ns : List PNode} : ∀ {f k : Nat}, deepOk ns f k → ∃ t, down ns f k = (k : Int) :: t
  | 0, _, h => h.elim
  | f + 1, k, _ => ⟨_, rfl⟩
theorem kids_sub {ns : List PNode} : ∀ (f k : Nat), deepOk ns f k → ∀ x ∈ down ns f k, (kidsOf ns x.toNat).Sublist (down ns f k)
  | 0, _, h => h.elim
  | f + 1, k, h => fun x hx => by
    rw [down] at hx ⊢
    rcases List.mem_cons.mp hx with rfl | hx
    · rw [Int.toNat_natCast]
      refine List.Sublist.cons _ (sub_flat (fun y hy => ?_))
      obtain ⟨t, ht⟩ := down_head (h.2 y hy).2
      exact ⟨t, by rw [ht, Int.toNat_of_nonneg (h.2 y hy).1]⟩
    · obtain ⟨y, hy, hx⟩ := List.mem_flatMap.mp hx
      exact ((kids_sub f y.toNat (h.2 y hy).2 x hx).trans (mem_flat_sub (g := fun x => down ns f x.toNat) hy)).cons _
theorem split_flat {g : Int → List Int} {x : Int} : ∀ {L l r : List Int}, l ++ x :: r = L.flatMap g → ∃ y ∈ L, ∃ l1 l2 r2, l = l1 ++ l2 ∧ g y = l2 ++ x :: r2
  | [], l, r, h => by simp at h
  | a :: L, l, r, h => by
    rw [List.flatMap_cons] at h
    rcases List.append_eq_append_iff.mp h with ⟨t, h1, h2⟩ | ⟨t, h1, h2⟩
    · cases t with
      | nil =>
        rw [List.append_nil] at h1
        obtain ⟨y, hy, l1, l2, r2, e1, e2⟩ := split_flat (L := L) (l := []) (r := r) (by simpa using h2)
        obtain ⟨rfl, rfl⟩ := List.append_eq_nil_iff.mp e1.symm
        exact ⟨y, by simp [hy], l, [], r2, by simp, e2⟩
      | cons b t =>
        rw [List.cons_append] at h2
        obtain ⟨rfl, _⟩ := List.cons.inj h2
        exact ⟨a, by simp, [], l, t, by simp, h1⟩
    · obtain ⟨y, hy, l1, l2, r2, e1, e2⟩ := split_flat (L := L) (l := t) (r := r) h2.symm
      exact ⟨y, by simp [hy], g a ++ l1, l2, r2, by rw [h1, e1, List.append_assoc], e2⟩
theorem par_ahead {ns : List PNode} : ∀ (f k : Nat), deepOk ns f k → ∀ l x r, l ++ x :: r = down ns f k → x = (k : Int) ∨ ∃ p ∈ l, x ∈ kidsOf ns p.toNat
  | 0, _, h => h.elim
  | f + 1, k, h => fun l x r e => by
    rw [down] at e
    cases l with
    | nil => exact .inl (List.cons.inj e).1
    | cons a l =>
      rw [List.cons_append] at e
      obtain ⟨rfl, e'⟩ := List.cons.inj e
      obtain ⟨y, hy, l1, l2, r2, rfl, e2⟩ := split_flat e'
      rcases par_ahead f y.toNat (h.2 y hy).2 l2 x r2 e2.symm with rfl | ⟨p, hp, hx⟩
      · refine .inr ⟨(k : Int), by simp, ?_⟩
        rw [Int.toNat_natCast, Int.toNat_of_nonneg (h.2 y hy).1]
        exact hy
      · exact .inr ⟨p, by simp [hp], hx⟩

def allD (ns : List PNode) : List Int := down ns ns.length 0
theorem allD_mem {ns : List PNode} (h : STreeOkP ns) {x : Int} (hx : x ∈ allD ns) : 0 ≤ x ∧ x < ns.length := by
  have h1 := h.1.one
  have := down_dep h.1.fit ns.length 0 0 ⟨by omega, h.2⟩ x hx
  exact ⟨this.1, this.2.1⟩
theorem allD_nodup {ns : List PNode} (h : STreeOkP ns) : (allD ns).Nodup := by
  have h1 := h.1.one
  refine List.nodup_iff_count.mpr (fun x => ?_)
  by_cases hx : x ∈ allD ns
  · obtain ⟨h2, h3, e, he⟩ := down_dep h.1.fit ns.length 0 0 ⟨by omega, h.2⟩ x hx
    have := down_once h.1.fit (d := 0) (f := ns.length) (s := 0) ⟨by omega, h.2⟩ (tree_deep h.1 (by omega)) e x.toNat he
    rw [Int.toNat_of_nonneg h2] at this
    exact this
  · rw [List.count_eq_zero_of_not_mem hx]; omega
theorem allD_head {ns : List PNode} (h : STreeOkP ns) : ∃ t, allD ns = 0 :: t := by
  have h1 := h.1.one
  exact down_head (tree_deep h.1 (by omega))
theorem allD_kids {ns : List PNode} (h : STreeOkP ns) {x : Int} (hx : x ∈ allD ns) : (kidsOf ns x.toNat).Sublist (allD ns) := by
  have h1 := h.1.one
  exact kids_sub _ _ (tree_deep h.1 (by omega)) x hx
theorem allD_par {ns : List PNode} (h : STreeOkP ns) {l r : List Int} {x : Int} (e : l ++ x :: r = allD ns) (h0 : x ≠ 0) : parOf ns x.toNat ∈ l ∧ x ∈ kidsOf ns (parOf ns x.toNat).toNat := by
  have h1 := h.1.one
  rcases par_ahead _ _ (tree_deep h.1 (k := 0) (by omega)) l x r e with rfl | ⟨p, hp, hx⟩
  · exact absurd rfl h0
  · have hf := (fit_kid h.1.fit hx).2.2.2
    have hp0 := allD_mem h (x := p) (by rw [← e]; simp [hp])
    rw [hf, Int.toNat_of_nonneg hp0.1]
    exact ⟨hp, hx⟩
end Go.Proofs.YtogdbjafibejdaaGreat

/- A page to which a node is hung, or a text written, is printed so behind all, in plain words. No condition. -/
namespace Go.Proofs.YtogdbjafibejdaaGreat
open Go.RowKit
set_option maxRecDepth 100000
set_option linter.unusedVariables false
end Go.Proofs.YtogdbjafibejdaaGreat

/- The laws' helper that marks a tree: its nodes. No condition. -/
namespace Go.Proofs.YtogdbjafibejdaaGreat
open Go.RowKit
set_option maxRecDepth 100000
set_option linter.unusedVariables false

structure MkSt (B : Nat) (w : World) (g cap : Nat) (qs ps : List (PNode × (Value × Value))) (W : World) : Prop where
  like : LikeQ qs ps
  own : OwnQ B W (.slice (some ⟨g, 0, none⟩) qs.length cap) ps
  fr : MkFr B w W
  ap : Apart qs ∧ ApartA qs
theorem MkSt.below {B g cap : Nat} {w W W' : World} {qs ps : List (PNode × (Value × Value))} (h : MkSt B w g cap qs ps W) (b : Below W.heap.size W W') : MkSt B w g cap qs ps W' :=
  ⟨h.like, ⟨ownsRow_below h.own.1 b, fun q hq => ⟨ownsRow_below (h.own.2 q hq).1 b, (h.own.2 q hq).2.below b⟩⟩, h.fr.trans (.of_below b), h.ap⟩
theorem MkSt.cell {B g cap : Nat} {w W : World} {qs ps : List (PNode × (Value × Value))} (h : MkSt B w g cap qs ps W) {k j : Nat} (hk : k < qs.length) (hj : j < 6) (u : Value) (hu : ∀ q : PNode × (Value × Value), ∃ q' : PNode × (Value × Value), nodeRow q'.1 q'.2 = (nodeRow q.1 q.2).set j u ∧ q'.1.attrs = q.1.attrs ∧ q'.1.kids = q.1.kids ∧ q'.2 = q.2) :
    ∃ ps', MkSt B w g cap qs ps' (W.setCell ⟨g, k * 6 + j, none⟩ u) := by
  have hkp : k < ps.length := by rw [h.like.len]; exact hk
  obtain ⟨q', e1, e2, e3, e4⟩ := hu ps[k]
  have hl := h.own.2 ps[k] (List.getElem_mem hkp)
  have o := h.own.set hkp hj (u := u) (q := q') e1 (by rw [e2, e3, e4]; exact hl)
  exact ⟨ps.set k q', h.like.set hkp ⟨by rw [e2], by rw [e3], e4⟩, o, h.fr.trans (.of_own h.own.1 (grown_setCell W g (k * 6 + j) u) (.inl rfl)), h.ap⟩
theorem MkSt.attrs {B g cap : Nat} {w W W' : World} {qs ps : List (PNode × (Value × Value))} (h : MkSt B w g cap qs ps W) {k : Nat} (hk : k < qs.length) {rs : List (ByteArray × ByteArray)} (hl : rs.length = qs[k].1.attrs.length) (hg : W.grownBy W' qs[k].2.1.ownBlock)
    (ho : W'.ownsRow B 115 2 qs[k].2.1 rs.length (pairCells rs)) : ∃ ps', MkSt B w g cap qs ps' W' := by
  have hkp : k < ps.length := by rw [h.like.len]; exact hk
  obtain ⟨l1, l2, l3⟩ := h.like.at hkp hk
  rw [← l3] at hg ho
  exact ⟨_, h.like.set hkp (q := attrsQ ps[k] rs) ⟨by rw [l1]; exact hl, rfl, rfl⟩, h.own.markA (h.like.apartA h.ap.2) hkp hg ho, h.fr.trans (.of_own (h.own.2 _ (List.getElem_mem hkp)).1 hg (.inr (.inl rfl))), h.ap⟩
theorem MkSt.kids {B g cap : Nat} {w W W' : World} {qs ps : List (PNode × (Value × Value))} (h : MkSt B w g cap qs ps W) {k : Nat} (hk : k < qs.length) {ks : List Int} (hl : ks.length = qs[k].1.kids.length) (hg : W.grownBy W' qs[k].2.2.ownBlock)
    (ho : Own B 3 .i64 W' qs[k].2.2 ks) : ∃ ps', MkSt B w g cap qs ps' W' := by
  have hkp : k < ps.length := by rw [h.like.len]; exact hk
  obtain ⟨l1, l2, l3⟩ := h.like.at hkp hk
  rw [← l3] at hg ho
  exact ⟨_, h.like.set hkp (q := kidsQ ps[k] ks) ⟨rfl, by rw [l2]; exact hl, rfl⟩, h.own.markK (h.like.apart h.ap.1) hkp hg ho, h.fr.trans (.of_own (h.own.2 _ (List.getElem_mem hkp)).2 hg (.inr (.inr rfl))), h.ap⟩
end Go.Proofs.YtogdbjafibejdaaGreat
