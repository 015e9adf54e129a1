/- The program's TreeAdd of a tree that is right. No condition. -/
import Derived.Test.YtogdbjafibejdaaGreatV40
import Derived.Test.YtogdbjafibejdaaGreatV42
import Derived.Test.YtogdbjafibejdaaGreatV33
import Derived.Test.YtogdbjafibejdaaGreatV41
namespace Go.Proofs.YtogdbjafibejdaaGreat
open Go.RowKit
set_option maxRecDepth 100000
set_option linter.unusedVariables false

theorem iadd_res {tmps : Array Value} {w : World} {g : Nat} {a : Option Addr} {n c : Nat} {i : Int} (h4 : tmps.getD 4 undef = .pointer (some ⟨g, 0, none⟩)) (h5 : tmps.getD 5 undef = .int .i64 i) (hb : w.heap[g]? = some (.cells #[.slice a n c] 26 (0, 0))) :
    (results Tryz.f23 tmps).run Tryz.prog w = .ok (.tuple #[.agg #[.slice a n c], .int .i64 i]) w := by
  rw [results_cell_tmp (p := 4) (u := 5) (ty := 26) rfl, h4, h5]
  simp [asAddr, run_loadVar_row w g 26 26 #[.slice a n c] (0, 0) _ hb Tryz.underlying26 rfl rfl, Result.andThen]

set_option maxHeartbeats 2000000 in
set_option maxRecDepth 100000 in
theorem itreeAdd_s {w : World} {v : Value} {ns : List PNode} (hn : NodesAt w v ns) (hfit : ∀ n ∈ ns, NodeFit n) (hok : TreeOkP ns) {k p : Int} {nm tx : ByteArray}
    {av1 : Option Addr} {av2 av3 : Nat} {kv1 : Option Addr} {kv2 kv3 : Nat} {rs : List (ByteArray × ByteArray)} (hav : Sv 2 w (.slice av1 av2 av3) (pairCells rs)) (hrs : rs.length ≤ 1048576) (hfn : NodeFit ⟨k, nm, rs, tx, -1, []⟩) :
    Calls Tryz.prog 23 #[.agg #[v], .agg #[.int .i64 k, .string nm, .slice av1 av2 av3, .string tx, .int .i64 p, .slice kv1 kv2 kv3]] w fun e w' => ∃ (va : Option Addr) (vn vc : Nat) (r : Int), e = .returned (.tuple #[.agg #[.slice va vn vc], .int .i64 r]) ∧ (TreeOkP (ns ++ [⟨k, nm, rs, tx, -1, []⟩]) → r = ns.length ∧ NodesAt w' (.slice va vn vc) (ns ++ [⟨k, nm, rs, tx, -1, []⟩])) ∧ (¬ TreeOkP (ns ++ [⟨k, nm, rs, tx, -1, []⟩]) → r = -1) ∧ Below w.heap.size w w' := by
  have hmf : ∀ (fn : Fn) (first cap : Array Value) (w : World), (Instr.makeFunc fn first cap).run Tryz.prog w = .ok (.func fn first cap) w := fun _ _ _ _ => rfl
  have HN := (show Hid (NodesAt w v ns) from hn)
  have HFIT := (show Hid (∀ n ∈ ns, NodeFit n) from hfit)
  have HOK := (show Hid (TreeOkP ns) from hok)
  have HAV := (show Hid (Sv 2 w (.slice av1 av2 av3) (pairCells rs)) from hav)
  have HFN := (show Hid (NodeFit ⟨k, nm, rs, tx, -1, []⟩) from hfn)
  have h1 := hok.one
  have h5 := hok.most
  obtain ⟨a, cap, rfl, hc1, hc2, _⟩ := hn.slice
  clear hn hfit hok hav hfn
  obtain ⟨w1, hw1⟩ : ∃ x, x = ((w.alloc (.cells #[.slice a ns.length cap] 26)).alloc (.cells #[.int .i64 k, .string nm, .slice av1 av2 av3, .string tx, .int .i64 p, .slice kv1 kv2 kv3] 36)).alloc (.cells #[.slice none 0 0] 26) := ⟨_, rfl⟩
  have b1 : Below w.heap.size w w1 := by rw [hw1]; exact (((Below.refl _ w).alloc (Nat.le_refl _) _).alloc (by simp) _).alloc (by simp; omega) _
  have hs1 : w1.heap.size = w.heap.size + 1 + 1 + 1 := by rw [hw1, World.size_alloc, World.size_alloc, World.size_alloc]
  have gT : w1.heap[w.heap.size]? = some (.cells #[.slice a ns.length cap] 26 (0, 0)) := by rw [hw1, Below.heap_alloc _ _ _ (by simp only [World.size_alloc]; omega), Below.heap_alloc _ _ _ (by simp)]; exact World.alloc_heap_new _ _
  have gN : w1.heap[w.heap.size + 1]? = some (.cells #[.int .i64 k, .string nm, .slice av1 av2 av3, .string tx, .int .i64 p, .slice kv1 kv2 kv3] 36 (0, 0)) := by
    rw [hw1, Below.heap_alloc _ _ _ (by simp)]
    have := World.alloc_heap_new (w.alloc (.cells #[.slice a ns.length cap] 26)) (.cells #[.int .i64 k, .string nm, .slice av1 av2 av3, .string tx, .int .i64 p, .slice kv1 kv2 kv3] 36)
    rwa [World.size_alloc] at this
  have gR : w1.heap[w.heap.size + 1 + 1]? = some (.cells #[.slice none 0 0] 26 (0, 0)) := by
    rw [hw1]
    have := World.alloc_heap_new ((w.alloc (.cells #[.slice a ns.length cap] 26)).alloc (.cells #[.int .i64 k, .string nm, .slice av1 av2 av3, .string tx, .int .i64 p, .slice kv1 kv2 kv3] 36)) (.cells #[.slice none 0 0] 26)
    rwa [World.size_alloc, World.size_alloc] at this
  have GN := (show Hid _ from gN)
  have GR := (show Hid _ from gR)
  have HS1 := (show Hid _ from hs1)
  have B1 := (show Hid (Below w.heap.size w w1) from b1)
  clear gN gR hs1 gT b1
  go_enter Tryz.func23, Tryz.ntmps23
  go_wp2_with fail
  go_at_call 47
  rw [← hw1]
  refine Calls.mono (iarenaOf_any (HN.out.below B1.out) HFIT.out (by omega) HOK.out) ?_
  rintro e w2 ⟨g, v2, rfl, ha2, o2, hg, b2⟩
  clear hw1
  obtain ⟨qs, hq1, hq2⟩ := o2.q
  have hql : qs.length = ns.length := by have := congrArg List.length hq1; simpa using this
  obtain ⟨w4, hw4⟩ : ∃ x, x = (w2.alloc (.cells #[.pointer (some ⟨g, 0, none⟩)] 64)).alloc (.cells #[.int .i64 (-1)] 3) := ⟨_, rfl⟩
  have b24 : Below w2.heap.size w2 w4 := by rw [hw4]; exact ((Below.refl _ w2).alloc (Nat.le_refl _) _).alloc (by simp) _
  have hs4 : w4.heap.size = w2.heap.size + 1 + 1 := by rw [hw4, World.size_alloc, World.size_alloc]
  have gA : w4.heap[w2.heap.size]? = some (.cells #[.pointer (some ⟨g, 0, none⟩)] 64 (0, 0)) := by rw [hw4, Below.heap_alloc _ _ _ (by simp)]; exact World.alloc_heap_new _ _
  have gK : w4.heap[w2.heap.size + 1]? = some (.cells #[.int .i64 (-1)] 3 (0, 0)) := by
    rw [hw4]
    have := World.alloc_heap_new (w2.alloc (.cells #[.pointer (some ⟨g, 0, none⟩)] 64)) (.cells #[.int .i64 (-1)] 3)
    rwa [World.size_alloc] at this
  have hgl := lt_of_block ha2
  have hs1 := HS1.out
  have b12 := b2.size
  have b14 : Below w1.heap.size w1 w4 := b2.trans (b24.mono b2.size)
  have bw4 : Below w.heap.size w w4 := B1.out.trans (b14.mono B1.out.size)
  have CC := (show Hid _ from ichange_any (B := w1.heap.size) (a := g) (A := w2.heap.size) (N := w.heap.size + 1) (K := w2.heap.size + 1) (w := w4) (k := k) (p := p) (nm := nm) (tx := tx) (kv1 := kv1) (kv2 := kv2) (kv3 := kv3) (rs := rs) ((b24.block g hgl).trans ha2) (hq2.below b24) b14.size (by omega) (by omega) (HAV.out.below bw4) hrs gA ((b14.block (w.heap.size + 1) (by omega)).trans GN.out) gK (by omega) (by
    intro q hq e
    have := (World.ownsRow.lt (hq2.2 q hq).2 _ e).2
    omega) (by rw [hq1]; exact HFIT.out) HFN.out)
  have HQ1 := (show Hid (qs.map (fun q => q.1) = ns) from hq1)
  have BW4 := (show Hid (Below w.heap.size w w4) from bw4)
  have GA := (show Hid _ from gA)
  have GR4 := (show Hid _ from (b14.block (w.heap.size + 1 + 1) (by omega)).trans GR.out)
  obtain ⟨cA4, _⟩ := one_cell gA
  have HSS := (show Hid (w1.heap.size = w.heap.size + 1 + 1 + 1 ∧ w1.heap.size ≤ w2.heap.size ∧ w4.heap.size = w2.heap.size + 1 + 1 ∧ g < w2.heap.size ∧ w1.heap.size ≤ g) from ⟨hs1, b12, hs4, hgl, hg⟩)
  clear gA gK b24 b14 bw4 hq1 hq2 o2 ha2 b2 GN GR HS1 B1 hs4 hs1 b12 hgl hg
  go_wp2_with fail
  go_at_call 48
  rw [← hw4]
  refine Calls.mono CC.out ?_
  rintro e w5 ⟨r, rfl, hr, ⟨g5, n5, c5, ha5, ho5⟩, hk5, fr5⟩
  clear CC hw4
  have hss := HSS.out
  have gA5 := fr5.box GA.out (by decide) (by omega) (by omega)
  have gR5 := fr5.box GR4.out (by decide) (by omega) (by omega)
  have b45 : Below w.heap.size w4 w5 := fr5.below (by omega) (by omega) (by omega) (by omega)
  have b5 : Below w.heap.size w w5 := BW4.out.trans b45
  obtain ⟨cA5, _⟩ := one_cell gA5
  obtain ⟨cK5, _⟩ := one_cell hk5
  rw [HQ1.out] at hr
  have HR := (show Hid _ from hr)
  have HO5 := (show Hid (r = true → ∃ av', OwnQ w1.heap.size w5 (.slice (some ⟨g5, 0, none⟩) n5 c5) (qs ++ [(⟨k, nm, rs, tx, -1, []⟩, (av', .slice none 0 0))])) from ho5)
  have GR5 := (show Hid _ from gR5)
  have B5 := (show Hid (Below w.heap.size w w5) from b5)
  have HA5 := (show Hid _ from ha5)
  have hRl := lt_of_block gR5
  have hAl := lt_of_block gA5
  have hKl := lt_of_block hk5
  have HK5 := (show Hid _ from hk5)
  clear hr ho5 gR5 b5 b45 ha5 gA5 fr5 cA4 GA GR4 BW4 hk5 hss
  cases r
  · have HF : Hid (¬ TreeOkP (ns ++ [⟨k, nm, rs, tx, -1, []⟩])) := fun h => by have := HR.out.mpr h; cases this
    clear HR HO5
    go_wp2_with fail
    go_at_call 51
    refine Calls.mono (itree_any HA5.out) ?_
    rintro e w6 ⟨rfl, b6⟩
    have gR6 := (b6.block _ hRl).trans GR5.out
    obtain ⟨cR6, zR6⟩ := one_cell gR6
    have GR6 := (show Hid _ from gR6)
    have B6 := (show Hid (Below w.heap.size w w6) from B5.out.trans (b6.mono B5.out.size))
    clear gR6 b6
    go_wp2
    refine bodyPost_ret (iadd_res rfl rfl (setCell_at GR6.out)) rfl ?_
    exact ⟨_, _, _, _, rfl, fun h => absurd h HF.out, fun _ => rfl, B6.out.setCell (p := ⟨w.heap.size + 1 + 1, 0, none⟩) (by simp; omega) _⟩
  · have HT : Hid (TreeOkP (ns ++ [⟨k, nm, rs, tx, -1, []⟩])) := HR.out.mp rfl
    have HO5' := HO5.out rfl
    obtain ⟨av5, ho5⟩ := HO5'
    have HOQ := (show Hid (OwnQ w1.heap.size w5 (.slice (some ⟨g5, 0, none⟩) n5 c5) (qs ++ [(⟨k, nm, rs, tx, -1, []⟩, (av5, .slice none 0 0))])) from ho5)
    clear HR HO5 ho5
    go_upto_region 6 with fail
    have bd : Below w5.heap.size w5 w5.drew := below_drewN 1
    have HAd : Hid (w5.drew.heap[g]? = some (.cells #[.slice (some ⟨g5, 0, none⟩) n5 c5] 77 (0, 0))) := HA5.out
    have HSR : Hid (w2.heap.size + 1 ≠ w.heap.size + 1 + 1) := (show w2.heap.size + 1 ≠ w.heap.size + 1 + 1 by have := HSS.out; omega)
    go_region_with (go_at_call 51; refine Calls.mono (itree_any HAd.out) ?_; rintro e w6 ⟨rfl, b6⟩
                    have b56 : Below w5.heap.size w5 w6 := bd.trans (b6.mono bd.size)
                    have gR6 := (b56.block _ hRl).trans GR5.out
                    obtain ⟨cR6, zR6⟩ := one_cell gR6
                    have gK6 := (b56.block _ hKl).trans HK5.out
                    obtain ⟨cK6, _⟩ := one_cell gK6
                    have hsr := HSR.out
                    have GR6 := (show Hid _ from gR6)
                    have B6 := (show Hid (Below w5.heap.size w5 w6) from b56)
                    clear gR6 b6 b56 gK6)
    all_goals go_wp2
    all_goals
      refine bodyPost_ret (iadd_res rfl rfl (setCell_at GR6.out)) rfl ?_
      refine ⟨_, _, _, _, rfl, fun _ => ⟨rfl, ?_⟩, fun h => absurd HT.out h, (B5.out.trans (B6.out.mono B5.out.size)).setCell (p := ⟨w.heap.size + 1 + 1, 0, none⟩) (by simp; omega) _⟩
      have ho6 := (OwnQ.below HOQ.out B6.out).kept (grown_setCell w6 (w.heap.size + 1 + 1) 0 (.slice (some ⟨g5, 0, none⟩) n5 c5)) (fun r e => by cases e; exact ⟨_, _, _, GR6.out, by decide, by decide, by decide⟩)
      have := ho6.n.nodes
      rwa [List.map_append, HQ1.out] at this
theorem itreeAdd_any {w : World} {v : Value} {ns : List PNode} (hn : NodesAt w v ns) (hfit : ∀ n ∈ ns, NodeFit n) (hok : TreeOkP ns) {k p : Int} {nm tx : ByteArray}
    {av1 : Option Addr} {av2 av3 : Nat} {kv1 : Option Addr} {kv2 kv3 : Nat} {rs : List (ByteArray × ByteArray)} (hav : Sv 2 w (.slice av1 av2 av3) (pairCells rs)) (hrs : rs.length ≤ 1048576) (hfn : NodeFit ⟨k, nm, rs, tx, -1, []⟩) :
    Calls Tryz.prog 23 #[.agg #[v], .agg #[.int .i64 k, .string nm, .slice av1 av2 av3, .string tx, .int .i64 p, .slice kv1 kv2 kv3]] w fun e w' => ∃ v' r, e = .returned (.tuple #[.agg #[v'], .int .i64 r]) ∧ (TreeOkP (ns ++ [⟨k, nm, rs, tx, -1, []⟩]) → r = ns.length ∧ NodesAt w' v' (ns ++ [⟨k, nm, rs, tx, -1, []⟩])) ∧ (¬ TreeOkP (ns ++ [⟨k, nm, rs, tx, -1, []⟩]) → r = -1) ∧ Below w.heap.size w w' := by
  refine Calls.mono (itreeAdd_s hn hfit hok hav hrs hfn) ?_
  rintro e w' ⟨va, vn, vc, r, rfl, h1, h2, b⟩
  exact ⟨_, _, rfl, h1, h2, b⟩
end Go.Proofs.YtogdbjafibejdaaGreat

/- The program's TreeHang and TreeTake of a right tree (written by mk/ihang5.py). No condition. -/
namespace Go.Proofs.YtogdbjafibejdaaGreat
open Go.RowKit
set_option maxRecDepth 100000
set_option linter.unusedVariables false

theorem TreeHang_res {tmps : Array Value} {w : World} {g : Nat} {a : Option Addr} {n c : Nat} {i : Bool} (h4 : tmps.getD 6 undef = .pointer (some ⟨g, 0, none⟩)) (h5 : tmps.getD 7 undef = .bool i) (hb : w.heap[g]? = some (.cells #[.slice a n c] 26 (0, 0))) :
    (results Tryz.f12 tmps).run Tryz.prog w = .ok (.tuple #[.agg #[.slice a n c], .bool i]) w := by
  rw [results_cell_tmp (p := 6) (u := 7) (ty := 26) rfl, h4, h5]
  simp [asAddr, run_loadVar_row w g 26 26 #[.slice a n c] (0, 0) _ hb Tryz.underlying26 rfl rfl, Result.andThen]

set_option maxHeartbeats 2000000 in
set_option maxRecDepth 100000 in
theorem itreeHang_any {w : World} {v : Value} {ns : List PNode} (hn : NodesAt w v ns) (hfit : ∀ n ∈ ns, NodeFit n) (hlen : ns.length ≤ 1048576) (c p : Int) (ok : TreeOkP ns) :
    Calls Tryz.prog 12 #[.agg #[v], .int .i64 c, .int .i64 p] w fun e w' => ∃ (v' : Value) (r : Bool), e = .returned (.tuple #[.agg #[v'], .bool r]) ∧ (r = true ↔ (c ≠ 0 ∧ (0 ≤ c ∧ c < ns.length) ∧ (0 ≤ p ∧ p < ns.length)) ∧ TreeOkP (hangN ns c.toNat p.toNat)) ∧ NodesAt w' v' (if r = true then hangN ns c.toNat p.toNat else ns) ∧ Below w.heap.size w w' := by
  have hmf : ∀ (fn : Fn) (first cap : Array Value) (w : World), (Instr.makeFunc fn first cap).run Tryz.prog w = .ok (.func fn first cap) w := fun _ _ _ _ => rfl
  have HN := (show Hid (NodesAt w v ns) from hn)
  have HFIT := (show Hid (∀ n ∈ ns, NodeFit n) from hfit)
  have HOK := (show Hid (TreeOkP ns) from ok)
  have h1 := ok.one
  have h5 := ok.most
  obtain ⟨a, cap, rfl, hc1, hc2, _⟩ := hn.slice
  clear hn hfit ok
  obtain ⟨w1, hw1⟩ : ∃ x, x = (((w.alloc (.cells #[.slice a ns.length cap] 26)).alloc (.cells #[.int .i64 c] 3)).alloc (.cells #[.int .i64 p] 3)).alloc (.cells #[.slice none 0 0] 26) := ⟨_, rfl⟩
  have b1 : Below w.heap.size w w1 := by rw [hw1]; exact ((((Below.refl _ w).alloc (Nat.le_refl _) _).alloc (by simp only [World.size_alloc]; omega) _).alloc (by simp only [World.size_alloc]; omega) _).alloc (by simp only [World.size_alloc]; omega) _
  have hs1 : w1.heap.size = w.heap.size + 1 + 1 + 1 + 1 := by rw [hw1]; simp only [World.size_alloc]
  have g0 : w1.heap[w.heap.size]? = some (.cells #[.slice a ns.length cap] 26 (0, 0)) := by
    rw [hw1, Below.heap_alloc _ _ _ (by simp only [World.size_alloc]; omega), Below.heap_alloc _ _ _ (by simp only [World.size_alloc]; omega), Below.heap_alloc _ _ _ (by simp only [World.size_alloc]; omega)]
    have := World.alloc_heap_new (w) (.cells #[.slice a ns.length cap] 26)
    exact this
  have g1 : w1.heap[w.heap.size + 1]? = some (.cells #[.int .i64 c] 3 (0, 0)) := by
    rw [hw1, Below.heap_alloc _ _ _ (by simp only [World.size_alloc]; omega), Below.heap_alloc _ _ _ (by simp only [World.size_alloc]; omega)]
    have := World.alloc_heap_new (w.alloc (.cells #[.slice a ns.length cap] 26)) (.cells #[.int .i64 c] 3)
    rwa [World.size_alloc] at this
  have g2 : w1.heap[w.heap.size + 1 + 1]? = some (.cells #[.int .i64 p] 3 (0, 0)) := by
    rw [hw1, Below.heap_alloc _ _ _ (by simp only [World.size_alloc]; omega)]
    have := World.alloc_heap_new ((w.alloc (.cells #[.slice a ns.length cap] 26)).alloc (.cells #[.int .i64 c] 3)) (.cells #[.int .i64 p] 3)
    rwa [World.size_alloc, World.size_alloc] at this
  have g3 : w1.heap[w.heap.size + 1 + 1 + 1]? = some (.cells #[.slice none 0 0] 26 (0, 0)) := by
    rw [hw1]
    have := World.alloc_heap_new (((w.alloc (.cells #[.slice a ns.length cap] 26)).alloc (.cells #[.int .i64 c] 3)).alloc (.cells #[.int .i64 p] 3)) (.cells #[.slice none 0 0] 26)
    rwa [World.size_alloc, World.size_alloc, World.size_alloc] at this
  have HG := (show Hid (w1.heap[w.heap.size]? = some (.cells #[.slice a ns.length cap] 26 (0, 0)) ∧ w1.heap[w.heap.size + 1]? = some (.cells #[.int .i64 c] 3 (0, 0)) ∧ w1.heap[w.heap.size + 1 + 1]? = some (.cells #[.int .i64 p] 3 (0, 0)) ∧ w1.heap[w.heap.size + 1 + 1 + 1]? = some (.cells #[.slice none 0 0] 26 (0, 0))) from ⟨g0, g1, g2, g3⟩)
  have HS1 := (show Hid _ from hs1)
  have B1 := (show Hid (Below w.heap.size w w1) from b1)
  clear g0 g1 g2 g3 hs1 b1
  go_enter Tryz.func12, Tryz.ntmps12
  go_wp2_with fail
  go_at_call 47
  rw [← hw1]
  refine Calls.mono (iarenaA_any (HN.out.below B1.out) HFIT.out hlen) ?_
  rintro e w2 ⟨g, v2, rfl, ha2, hq2, _, hg, b2⟩
  clear hw1
  obtain ⟨qs, hq1, o2, a2⟩ := hq2 HOK.out
  have hql : qs.length = ns.length := by have := congrArg List.length hq1; simpa using this
  obtain ⟨gv, cv, rfl, hgv, hgvl⟩ := o2.form (by omega)
  obtain ⟨w4, hw4⟩ : ∃ x, x = w2.alloc (.cells #[.pointer (some ⟨g, 0, none⟩)] 64) := ⟨_, rfl⟩
  have b24 : Below w2.heap.size w2 w4 := by rw [hw4]; exact (Below.refl _ w2).alloc (Nat.le_refl _) _
  have hs4 : w4.heap.size = w2.heap.size + 1 := by rw [hw4, World.size_alloc]
  have gA : w4.heap[w2.heap.size]? = some (.cells #[.pointer (some ⟨g, 0, none⟩)] 64 (0, 0)) := by rw [hw4]; exact World.alloc_heap_new _ _
  have hgl := lt_of_block ha2
  have hs1 := HS1.out
  have b12 := b2.size
  have b14 : Below w1.heap.size w1 w4 := b2.trans (b24.mono b2.size)
  have bw4 : Below w.heap.size w w4 := B1.out.trans (b14.mono B1.out.size)
  have ha4 := (b24.block g hgl).trans ha2
  have o4 := o2.below b24
  have hpar : ∀ i (hi : i < qs.length), qs[i].1.parent = -1 ∨ ∃ p : Nat, qs[i].1.parent = p ∧ p < qs.length := fun i hi => by
    have h := par_ok HOK.out (i := i) (by omega)
    have e : parOf ns i = qs[i].1.parent := by rw [← hq1, parOf_at (by simpa using hi)]; simp
    rw [e] at h
    rw [hql]; exact h
  have hkl : ∀ q ∈ qs, q.1.kids.length ≤ 1048576 := fun q hq => (HFIT.out q.1 (by rw [← hq1]; exact List.mem_map.mpr ⟨q, hq, rfl⟩)).kl
  have hgs := HG.out
  have CC := (show Hid _ from ichangeHang (B := w1.heap.size) (a := g) (g := gv) (cap := cv) (w := w4) (qs := qs) (ms := hangN ns c.toNat p.toNat) (C := c ≠ 0 ∧ (0 ≤ c ∧ c < ns.length) ∧ (0 ≤ p ∧ p < ns.length)) (x0 := w2.heap.size) (x1 := w.heap.size + 1) (x2 := w.heap.size + 1 + 1) ha4 o4 b14.size (by omega) (by omega) (by rw [hq1]; exact HFIT.out) (hangN_fit (fun n hn => ⟨HFIT.out n hn, by have := kids_few HOK.out n hn; omega⟩)) (by simp [hangN_len]; omega)
    (fun W b => by
      have h := istepHang (B := w1.heap.size) ((b.block g (lt_of_block ha4)).trans ha4) (o4.below b) a2 (Nat.le_trans b14.size b.size) (by omega) hpar hkl c p ((b.block _ (lt_of_block gA)).trans gA) ((b.block _ (lt_of_block ((b14.block _ (by omega)).trans hgs.2.1))).trans ((b14.block _ (by omega)).trans hgs.2.1)) ((b.block _ (lt_of_block ((b14.block _ (by omega)).trans hgs.2.2.1))).trans ((b14.block _ (by omega)).trans hgs.2.2.1))
      rw [hq1, hql] at h
      rw [hql]
      exact h))
  have BW4 := (show Hid (Below w.heap.size w w4) from bw4)
  have GA := (show Hid _ from gA)
  have GR4 := (show Hid _ from (b14.block (w.heap.size + 1 + 1 + 1) (by omega)).trans hgs.2.2.2)
  obtain ⟨cA4, _⟩ := one_cell gA
  have HSS := (show Hid (w1.heap.size = w.heap.size + 1 + 1 + 1 + 1 ∧ w1.heap.size ≤ w2.heap.size ∧ w4.heap.size = w2.heap.size + 1 ∧ g < w2.heap.size ∧ w1.heap.size ≤ g) from ⟨hs1, b12, hs4, hgl, hg⟩)
  have HQ1 := (show Hid (qs.map (fun q => q.1) = ns) from hq1)
  clear gA b24 b14 bw4 hq1 hq2 o2 o4 ha2 ha4 b2 HG HS1 B1 hs4 hs1 b12 hgl hg hpar hkl hgs a2
  go_wp2_with fail
  go_at_call 48
  rw [← hw4]
  refine Calls.mono CC.out ?_
  rintro e w5 ⟨r, rfl, hr, ⟨g5, n5, c5, ha5, ho5⟩, fr5⟩
  clear CC hw4
  have hss := HSS.out
  have gA5 := fr5.box GA.out (by decide) (by decide) (by omega)
  have gR5 := fr5.box GR4.out (by decide) (by decide) (by omega)
  have b45 : Below w.heap.size w4 w5 := fr5.below (by omega) (by omega) (by omega)
  have b5 : Below w.heap.size w w5 := BW4.out.trans b45
  obtain ⟨cA5, _⟩ := one_cell gA5
  rw [HQ1.out] at ho5
  have HR := (show Hid _ from hr)
  have HO5 := (show Hid (OwnN w1.heap.size w5 (.slice (some ⟨g5, 0, none⟩) n5 c5) (if r = true then hangN ns c.toNat p.toNat else ns)) from ho5)
  have GR5 := (show Hid _ from gR5)
  have B5 := (show Hid (Below w.heap.size w w5) from b5)
  have HA5 := (show Hid _ from ha5)
  have hRl := lt_of_block gR5
  have hAl := lt_of_block gA5
  clear hr ho5 gR5 b5 b45 ha5 gA5 fr5 cA4 GA GR4 BW4 hss
  go_wp2_with fail
  go_at_call 51
  refine Calls.mono (itree_any HA5.out) ?_
  rintro e w6 ⟨rfl, b6⟩
  have gR6 := (b6.block _ hRl).trans GR5.out
  obtain ⟨cR6, zR6⟩ := one_cell gR6
  have GR6 := (show Hid _ from gR6)
  have B6 := (show Hid (Below w.heap.size w w6) from B5.out.trans (b6.mono B5.out.size))
  have HO6 := (show Hid (OwnN w1.heap.size w6 (.slice (some ⟨g5, 0, none⟩) n5 c5) (if r = true then hangN ns c.toNat p.toNat else ns)) from HO5.out.below b6)
  clear gR6 b6
  go_wp2
  refine bodyPost_ret (TreeHang_res rfl rfl (setCell_at GR6.out)) rfl ?_
  refine ⟨_, _, rfl, HR.out, ?_, B6.out.setCell (p := ⟨w.heap.size + 1 + 1 + 1, 0, none⟩) (by simp; omega) _⟩
  exact (HO6.out.kept (grown_setCell w6 (w.heap.size + 1 + 1 + 1) 0 (.slice (some ⟨g5, 0, none⟩) n5 c5)) (fun r e => by cases e; exact ⟨_, _, _, GR6.out, by decide, by decide, by decide⟩)).nodes

theorem TreeTake_res {tmps : Array Value} {w : World} {g : Nat} {a : Option Addr} {n c : Nat} {i : Bool} (h4 : tmps.getD 4 undef = .pointer (some ⟨g, 0, none⟩)) (h5 : tmps.getD 5 undef = .bool i) (hb : w.heap[g]? = some (.cells #[.slice a n c] 26 (0, 0))) :
    (results Tryz.f17 tmps).run Tryz.prog w = .ok (.tuple #[.agg #[.slice a n c], .bool i]) w := by
  rw [results_cell_tmp (p := 4) (u := 5) (ty := 26) rfl, h4, h5]
  simp [asAddr, run_loadVar_row w g 26 26 #[.slice a n c] (0, 0) _ hb Tryz.underlying26 rfl rfl, Result.andThen]

set_option maxHeartbeats 2000000 in
set_option maxRecDepth 100000 in
theorem itreeTake_any {w : World} {v : Value} {ns : List PNode} (hn : NodesAt w v ns) (hfit : ∀ n ∈ ns, NodeFit n) (hlen : ns.length ≤ 1048576) (c : Int) (ok : TreeOkP ns) :
    Calls Tryz.prog 17 #[.agg #[v], .int .i64 c] w fun e w' => ∃ (v' : Value) (r : Bool), e = .returned (.tuple #[.agg #[v'], .bool r]) ∧ (r = true ↔ (c ≠ 0 ∧ (0 ≤ c ∧ c < ns.length)) ∧ TreeOkP (takeN ns c.toNat)) ∧ NodesAt w' v' (if r = true then takeN ns c.toNat else ns) ∧ Below w.heap.size w w' := by
  have hmf : ∀ (fn : Fn) (first cap : Array Value) (w : World), (Instr.makeFunc fn first cap).run Tryz.prog w = .ok (.func fn first cap) w := fun _ _ _ _ => rfl
  have HN := (show Hid (NodesAt w v ns) from hn)
  have HFIT := (show Hid (∀ n ∈ ns, NodeFit n) from hfit)
  have HOK := (show Hid (TreeOkP ns) from ok)
  have h1 := ok.one
  have h5 := ok.most
  obtain ⟨a, cap, rfl, hc1, hc2, _⟩ := hn.slice
  clear hn hfit ok
  obtain ⟨w1, hw1⟩ : ∃ x, x = ((w.alloc (.cells #[.slice a ns.length cap] 26)).alloc (.cells #[.int .i64 c] 3)).alloc (.cells #[.slice none 0 0] 26) := ⟨_, rfl⟩
  have b1 : Below w.heap.size w w1 := by rw [hw1]; exact (((Below.refl _ w).alloc (Nat.le_refl _) _).alloc (by simp only [World.size_alloc]; omega) _).alloc (by simp only [World.size_alloc]; omega) _
  have hs1 : w1.heap.size = w.heap.size + 1 + 1 + 1 := by rw [hw1]; simp only [World.size_alloc]
  have g0 : w1.heap[w.heap.size]? = some (.cells #[.slice a ns.length cap] 26 (0, 0)) := by
    rw [hw1, Below.heap_alloc _ _ _ (by simp only [World.size_alloc]; omega), Below.heap_alloc _ _ _ (by simp only [World.size_alloc]; omega)]
    have := World.alloc_heap_new (w) (.cells #[.slice a ns.length cap] 26)
    exact this
  have g1 : w1.heap[w.heap.size + 1]? = some (.cells #[.int .i64 c] 3 (0, 0)) := by
    rw [hw1, Below.heap_alloc _ _ _ (by simp only [World.size_alloc]; omega)]
    have := World.alloc_heap_new (w.alloc (.cells #[.slice a ns.length cap] 26)) (.cells #[.int .i64 c] 3)
    rwa [World.size_alloc] at this
  have g2 : w1.heap[w.heap.size + 1 + 1]? = some (.cells #[.slice none 0 0] 26 (0, 0)) := by
    rw [hw1]
    have := World.alloc_heap_new ((w.alloc (.cells #[.slice a ns.length cap] 26)).alloc (.cells #[.int .i64 c] 3)) (.cells #[.slice none 0 0] 26)
    rwa [World.size_alloc, World.size_alloc] at this
  have HG := (show Hid (w1.heap[w.heap.size]? = some (.cells #[.slice a ns.length cap] 26 (0, 0)) ∧ w1.heap[w.heap.size + 1]? = some (.cells #[.int .i64 c] 3 (0, 0)) ∧ w1.heap[w.heap.size + 1 + 1]? = some (.cells #[.slice none 0 0] 26 (0, 0))) from ⟨g0, g1, g2⟩)
  have HS1 := (show Hid _ from hs1)
  have B1 := (show Hid (Below w.heap.size w w1) from b1)
  clear g0 g1 g2 hs1 b1
  go_enter Tryz.func17, Tryz.ntmps17
  go_wp2_with fail
  go_at_call 47
  rw [← hw1]
  refine Calls.mono (iarenaA_any (HN.out.below B1.out) HFIT.out hlen) ?_
  rintro e w2 ⟨g, v2, rfl, ha2, hq2, _, hg, b2⟩
  clear hw1
  obtain ⟨qs, hq1, o2, a2⟩ := hq2 HOK.out
  have hql : qs.length = ns.length := by have := congrArg List.length hq1; simpa using this
  obtain ⟨gv, cv, rfl, hgv, hgvl⟩ := o2.form (by omega)
  obtain ⟨w4, hw4⟩ : ∃ x, x = w2.alloc (.cells #[.pointer (some ⟨g, 0, none⟩)] 64) := ⟨_, rfl⟩
  have b24 : Below w2.heap.size w2 w4 := by rw [hw4]; exact (Below.refl _ w2).alloc (Nat.le_refl _) _
  have hs4 : w4.heap.size = w2.heap.size + 1 := by rw [hw4, World.size_alloc]
  have gA : w4.heap[w2.heap.size]? = some (.cells #[.pointer (some ⟨g, 0, none⟩)] 64 (0, 0)) := by rw [hw4]; exact World.alloc_heap_new _ _
  have hgl := lt_of_block ha2
  have hs1 := HS1.out
  have b12 := b2.size
  have b14 : Below w1.heap.size w1 w4 := b2.trans (b24.mono b2.size)
  have bw4 : Below w.heap.size w w4 := B1.out.trans (b14.mono B1.out.size)
  have ha4 := (b24.block g hgl).trans ha2
  have o4 := o2.below b24
  have hpar : ∀ i (hi : i < qs.length), qs[i].1.parent = -1 ∨ ∃ p : Nat, qs[i].1.parent = p ∧ p < qs.length := fun i hi => by
    have h := par_ok HOK.out (i := i) (by omega)
    have e : parOf ns i = qs[i].1.parent := by rw [← hq1, parOf_at (by simpa using hi)]; simp
    rw [e] at h
    rw [hql]; exact h
  have hkl : ∀ q ∈ qs, q.1.kids.length ≤ 1048576 := fun q hq => (HFIT.out q.1 (by rw [← hq1]; exact List.mem_map.mpr ⟨q, hq, rfl⟩)).kl
  have hgs := HG.out
  have CC := (show Hid _ from ichangeTake (B := w1.heap.size) (a := g) (g := gv) (cap := cv) (w := w4) (qs := qs) (ms := takeN ns c.toNat) (C := c ≠ 0 ∧ (0 ≤ c ∧ c < ns.length)) (x0 := w2.heap.size) (x1 := w.heap.size + 1) ha4 o4 b14.size (by omega) (by omega) (by rw [hq1]; exact HFIT.out) (takeN_fit HFIT.out) (by simp [takeN_len]; omega)
    (fun W b => by
      have h := istepTake (B := w1.heap.size) ((b.block g (lt_of_block ha4)).trans ha4) (o4.below b) a2 (Nat.le_trans b14.size b.size) (by omega) hpar hkl c ((b.block _ (lt_of_block gA)).trans gA) ((b.block _ (lt_of_block ((b14.block _ (by omega)).trans hgs.2.1))).trans ((b14.block _ (by omega)).trans hgs.2.1))
      rw [hq1, hql] at h
      rw [hql]
      exact h))
  have BW4 := (show Hid (Below w.heap.size w w4) from bw4)
  have GA := (show Hid _ from gA)
  have GR4 := (show Hid _ from (b14.block (w.heap.size + 1 + 1) (by omega)).trans hgs.2.2)
  obtain ⟨cA4, _⟩ := one_cell gA
  have HSS := (show Hid (w1.heap.size = w.heap.size + 1 + 1 + 1 ∧ w1.heap.size ≤ w2.heap.size ∧ w4.heap.size = w2.heap.size + 1 ∧ g < w2.heap.size ∧ w1.heap.size ≤ g) from ⟨hs1, b12, hs4, hgl, hg⟩)
  have HQ1 := (show Hid (qs.map (fun q => q.1) = ns) from hq1)
  clear gA b24 b14 bw4 hq1 hq2 o2 o4 ha2 ha4 b2 HG HS1 B1 hs4 hs1 b12 hgl hg hpar hkl hgs a2
  go_wp2_with fail
  go_at_call 48
  rw [← hw4]
  refine Calls.mono CC.out ?_
  rintro e w5 ⟨r, rfl, hr, ⟨g5, n5, c5, ha5, ho5⟩, fr5⟩
  clear CC hw4
  have hss := HSS.out
  have gA5 := fr5.box GA.out (by decide) (by decide) (by omega)
  have gR5 := fr5.box GR4.out (by decide) (by decide) (by omega)
  have b45 : Below w.heap.size w4 w5 := fr5.below (by omega) (by omega) (by omega)
  have b5 : Below w.heap.size w w5 := BW4.out.trans b45
  obtain ⟨cA5, _⟩ := one_cell gA5
  rw [HQ1.out] at ho5
  have HR := (show Hid _ from hr)
  have HO5 := (show Hid (OwnN w1.heap.size w5 (.slice (some ⟨g5, 0, none⟩) n5 c5) (if r = true then takeN ns c.toNat else ns)) from ho5)
  have GR5 := (show Hid _ from gR5)
  have B5 := (show Hid (Below w.heap.size w w5) from b5)
  have HA5 := (show Hid _ from ha5)
  have hRl := lt_of_block gR5
  have hAl := lt_of_block gA5
  clear hr ho5 gR5 b5 b45 ha5 gA5 fr5 cA4 GA GR4 BW4 hss
  go_wp2_with fail
  go_at_call 51
  refine Calls.mono (itree_any HA5.out) ?_
  rintro e w6 ⟨rfl, b6⟩
  have gR6 := (b6.block _ hRl).trans GR5.out
  obtain ⟨cR6, zR6⟩ := one_cell gR6
  have GR6 := (show Hid _ from gR6)
  have B6 := (show Hid (Below w.heap.size w w6) from B5.out.trans (b6.mono B5.out.size))
  have HO6 := (show Hid (OwnN w1.heap.size w6 (.slice (some ⟨g5, 0, none⟩) n5 c5) (if r = true then takeN ns c.toNat else ns)) from HO5.out.below b6)
  clear gR6 b6
  go_wp2
  refine bodyPost_ret (TreeTake_res rfl rfl (setCell_at GR6.out)) rfl ?_
  refine ⟨_, _, rfl, HR.out, ?_, B6.out.setCell (p := ⟨w.heap.size + 1 + 1, 0, none⟩) (by simp; omega) _⟩
  exact (HO6.out.kept (grown_setCell w6 (w.heap.size + 1 + 1) 0 (.slice (some ⟨g5, 0, none⟩) n5 c5)) (fun r e => by cases e; exact ⟨_, _, _, GR6.out, by decide, by decide, by decide⟩)).nodes
end Go.Proofs.YtogdbjafibejdaaGreat

/- The program's lastText: the text at the end of which more is written. No condition. -/
namespace Go.Proofs.YtogdbjafibejdaaGreat
open Go.RowKit
set_option maxRecDepth 100000
set_option linter.unusedVariables false

set_option maxHeartbeats 2000000 in
set_option maxRecDepth 100000 in
theorem ilastText_any {B a g cap : Nat} {w : World} {qs : List (PNode × (Value × Value))} (ha : w.heap[a]? = some (.cells #[.slice (some ⟨g, 0, none⟩) qs.length cap] 77 (0, 0))) (hO : OwnQ B w (.slice (some ⟨g, 0, none⟩) qs.length cap) qs) (hlen : qs.length ≤ 100000)
    {p : Nat} (hp : p < qs.length) (hkl : qs[p].1.kids.length ≤ 1048576) (hk : ∀ x ∈ qs[p].1.kids, 0 ≤ x ∧ x < qs.length) :
    Calls Tryz.prog 118 #[.pointer (some ⟨a, 0, none⟩), .int .i64 (p : Int)] w fun e w' => ∃ r : Option Addr, e = .returned (.pointer r) ∧ ((∃ k, LastT (qs.map (fun q => q.1)) p k ∧ r = some ⟨g, k * 6, none⟩) ∨ (r = none ∧ ¬ ∃ k, LastT (qs.map (fun q => q.1)) p k)) ∧ Below w.heap.size w w' := by
  have cA := (one_cell ha).1
  have hpl : (p : Int) < qs.length := by omega
  have ck := hO.cellAt hp (j := 5) (by omega)
  simp only [nodeRow, List.getD_cons_succ, List.getD_cons_zero] at ck
  have HKO : Hid (kidsOf (qs.map (fun q => q.1)) p = qs[p].1.kids) := (show kidsOf (qs.map (fun q => q.1)) p = qs[p].1.kids by
    have h' : p < (qs.map (fun q => q.1)).length := by simpa using hp
    rw [kidsOf_at h']; simp)
  obtain ⟨ka, kc, ek, hk1, hk2, hk3, hk4⟩ := (hO.2 qs[p] (List.getElem_mem hp)).2.sl
  rw [ek] at ck
  have HO := (show Hid (OwnQ B w (.slice (some ⟨g, 0, none⟩) qs.length cap) qs) from hO)
  by_cases h0 : qs[p].1.kids = []
  · have HNO : Hid (¬ ∃ k, LastT (qs.map (fun q => q.1)) p k) := fun ⟨k, pre, h, _⟩ => by rw [HKO.out, h0] at h; simp at h
    rw [h0, List.length_nil] at ck
    clear hk1 hk2 hk3 hk4 hk ek hO h0 hkl
    go_enter Tryz.func118, Tryz.ntmps118
    go_wp2
    go_ret
    exact ⟨none, rfl, .inr ⟨rfl, HNO.out⟩, Below.refl _ _⟩
  · obtain ⟨pre, x, hpx⟩ : ∃ pre x, qs[p].1.kids = pre ++ [x] := ⟨_, _, (List.dropLast_concat_getLast h0).symm⟩
    have hx := hk x (by rw [hpx]; simp)
    obtain ⟨k, rfl⟩ : ∃ k : Nat, x = k := ⟨x.toNat, by omega⟩
    have hkl' : k < qs.length := by omega
    have hki : (k : Int) < qs.length := hx.2
    obtain ⟨m, hm⟩ : ∃ m, m = pre.length := ⟨_, rfl⟩
    have hlm : qs[p].1.kids.length = m + 1 := by rw [hpx, hm]; simp
    obtain ⟨kb, ko, rfl, kz⟩ := hk4 m (by omega)
    have kz' : w.cell? ⟨kb, ko + m, none⟩ = some (.int .i64 (k : Int)) := by rw [kz]; simp [hpx, hm]
    rw [hlm] at ck hk1 hkl
    have cK := HO.out.cellAt hkl' (j := 0) (by omega)
    simp only [nodeRow, List.getD_cons_zero, Nat.add_zero] at cK
    obtain ⟨kk, hkk⟩ : ∃ kk, kk = qs[k].1.kind := ⟨_, rfl⟩
    have HKK := (show Hid (kk = qs[k].1.kind) from hkk)
    rw [← hkk] at cK
    have HKX : Hid (kidsOf (qs.map (fun q => q.1)) p = pre ++ [(k : Int)]) := HKO.out.trans hpx
    clear kz hpx hlm hm hk hk3 hk4 ek hO hkk h0 HKO hk2
    by_cases h4 : kk = 4
    · subst h4
      have HY : Hid (LastT (qs.map (fun q => q.1)) p k) := ⟨pre, HKX.out, by simpa using hkl', by simpa using HKK.out.symm⟩
      go_enter Tryz.func118, Tryz.ntmps118
      go_wp2
      go_big_quiet (fail)
      go_wp2
      go_ret
      exact ⟨_, rfl, .inl ⟨k, HY.out, rfl⟩, ⟨rfl, rfl, rfl, Nat.le_refl _, fun _ _ => rfl⟩⟩
    · have HNO : Hid (¬ ∃ k, LastT (qs.map (fun q => q.1)) p k) := fun ⟨j, pre', h, hj, hj4⟩ => by
        rw [HKX.out] at h
        have e := List.append_inj_right' h rfl
        simp at e
        have : j = k := by omega
        subst this
        exact h4 (HKK.out.trans (by simpa using hj4))
      go_enter Tryz.func118, Tryz.ntmps118
      go_wp2
      go_big_quiet (fail)
      go_wp2
      go_ret
      exact ⟨_, rfl, .inr ⟨rfl, HNO.out⟩, ⟨rfl, rfl, rfl, Nat.le_refl _, fun _ _ => rfl⟩⟩
end Go.Proofs.YtogdbjafibejdaaGreat

/- change with TreeWrite's step (written by mk/ichange3.py). No condition. -/
namespace Go.Proofs.YtogdbjafibejdaaGreat
open Go.RowKit
set_option maxRecDepth 100000
set_option linter.unusedVariables false

set_option maxHeartbeats 2000000 in
set_option maxRecDepth 100000 in
theorem ichangeWrite {B a g cap : Nat} {w : World} {qs : List (PNode × (Value × Value))} {ms : List PNode} {C : Prop} {x0 x1 x2 : Nat} (ha : w.heap[a]? = some (.cells #[.slice (some ⟨g, 0, none⟩) qs.length cap] 77 (0, 0))) (hO : OwnQ B w (.slice (some ⟨g, 0, none⟩) qs.length cap) qs) (hB : B ≤ w.heap.size) (h0 : 0 < qs.length) (hlen : qs.length ≤ 100000)
    (hfit : ∀ n ∈ qs.map (fun q => q.1), NodeFit n) (hfm : ∀ n ∈ ms, NodeFit n) (hml : ms.length ≤ 1048576)
    (hstep : ∀ W, Below w.heap.size w W → Calls Tryz.prog 69 #[.pointer (some ⟨x0, 0, none⟩), .pointer (some ⟨x1, 0, none⟩), .pointer (some ⟨x2, 0, none⟩)] W fun e w' => ∃ r : Bool, e = .returned (.bool r) ∧ (r = true ↔ C) ∧ (∃ g' n' c', w'.heap[a]? = some (.cells #[.slice (some ⟨g', 0, none⟩) n' c'] 77 (0, 0)) ∧ (r = true → ∃ qs', qs'.map (fun q => q.1) = ms ∧ OwnQ B w' (.slice (some ⟨g', 0, none⟩) n' c') qs')) ∧ OpFr B a W w') :
    Calls Tryz.prog 48 #[.pointer (some ⟨a, 0, none⟩), .func (.func 69) #[] #[.pointer (some ⟨x0, 0, none⟩), .pointer (some ⟨x1, 0, none⟩), .pointer (some ⟨x2, 0, none⟩)]] w fun e w' =>
      ∃ r : Bool, e = .returned (.bool r) ∧ (r = true ↔ C ∧ TreeOkP ms) ∧ (∃ g' n' c', w'.heap[a]? = some (.cells #[.slice (some ⟨g', 0, none⟩) n' c'] 77 (0, 0)) ∧ (r = true → OwnN B w' (.slice (some ⟨g', 0, none⟩) n' c') ms) ∧ (r = false → n' = qs.length)) ∧ OpFr B a w w' := by
  have hmf : ∀ (fn : Fn) (first cap : Array Value) (w : World), (Instr.makeFunc fn first cap).run Tryz.prog w = .ok (.func fn first cap) w := fun _ _ _ _ => rfl
  have HA := (show Hid _ from ha)
  have HO := (show Hid (OwnQ B w (.slice (some ⟨g, 0, none⟩) qs.length cap) qs) from hO)
  have HFIT := (show Hid _ from hfit)
  have HFM := (show Hid _ from hfm)
  have HST := (show Hid (∀ W, Below w.heap.size w W → Calls Tryz.prog 69 #[.pointer (some ⟨x0, 0, none⟩), .pointer (some ⟨x1, 0, none⟩), .pointer (some ⟨x2, 0, none⟩)] W fun e w' => ∃ r : Bool, e = .returned (.bool r) ∧ (r = true ↔ C) ∧ (∃ g' n' c', w'.heap[a]? = some (.cells #[.slice (some ⟨g', 0, none⟩) n' c'] 77 (0, 0)) ∧ (r = true → ∃ qs', qs'.map (fun q => q.1) = ms ∧ OwnQ B w' (.slice (some ⟨g', 0, none⟩) n' c') qs')) ∧ OpFr B a W w') from hstep)
  have hal := lt_of_block ha
  have hgl : g < w.heap.size := (World.ownsRow.lt hO.1 g rfl).2
  have hga : a ≠ g := fun e => by
    obtain ⟨cur, hcur⟩ := hO.rowCells
    rw [← e, ha] at hcur; cases hcur
  have HKA := (show Hid (∀ q ∈ qs, ∀ r, q.2.2.ownBlock = some r → r < w.heap.size ∧ r ≠ a) from fun q hq r e => ⟨(Own.lt (hO.2 q hq).2 r e).2, fun e2 => by
    rcases (hO.2 q hq).2.2 with ⟨e1, _⟩ | ⟨g', cap', cur, e1, _, hh, _⟩
    · rw [e1] at e; cases e
    · rw [e1] at e
      simp only [Value.ownBlock, Option.some.injEq] at e
      subst e2
      subst e
      rw [ha] at hh; cases hh⟩)
  clear ha hO hfit hfm hstep
  obtain ⟨w1, hw1⟩ : ∃ x, x = (w.alloc (.cells #[.pointer (some ⟨a, 0, none⟩)] 64)).alloc (.cells #[.bool false] 4) := ⟨_, rfl⟩
  have b1 : Below w.heap.size w w1 := by rw [hw1]; exact ((Below.refl _ w).alloc (Nat.le_refl _) _).alloc (by simp) _
  have hs1 : w1.heap.size = w.heap.size + 1 + 1 := by rw [hw1, World.size_alloc, World.size_alloc]
  have gP : w1.heap[w.heap.size]? = some (.cells #[.pointer (some ⟨a, 0, none⟩)] 64 (0, 0)) := by rw [hw1, Below.heap_alloc _ _ _ (by simp)]; exact World.alloc_heap_new _ _
  have gD : w1.heap[w.heap.size + 1]? = some (.cells #[.bool false] 4 (0, 0)) := by
    rw [hw1]
    have := World.alloc_heap_new (w.alloc (.cells #[.pointer (some ⟨a, 0, none⟩)] 64)) (.cells #[.bool false] 4)
    rwa [World.size_alloc] at this
  obtain ⟨ca, _⟩ := one_cell ((b1.block a hal).trans HA.out)
  obtain ⟨ca0, _⟩ := one_cell HA.out
  have GP := (show Hid _ from gP)
  have GD := (show Hid _ from gD)
  have HS1 := (show Hid _ from hs1)
  clear gP gD hs1
  go_enter_defers Tryz.func48, Tryz.ntmps48
  go_wp2_with fail
  go_at_call 103
  rw [← hw1]
  refine Calls.mono (icopy_any (ns := qs.map (fun q => q.1)) (w := w1) (v := .slice (some ⟨g, 0, none⟩) qs.length cap) ((HO.out.n.nodes).below b1) HFIT.out (by rw [List.length_map]; omega)) ?_
  rintro e w2 ⟨vb, rfl, ob, b2⟩
  clear hw1
  have hform := ob.form (by rw [List.length_map]; exact h0)
  rw [List.length_map] at hform
  obtain ⟨gb, cb, rfl, _, _⟩ := hform
  have hb2 := b1.trans (b2.mono b1.size)
  obtain ⟨w3, hw3⟩ : ∃ x, x = w2.alloc (.cells #[.slice (some ⟨gb, 0, none⟩) qs.length cb] 24) := ⟨_, rfl⟩
  have b23 : Below w2.heap.size w2 w3 := by rw [hw3]; exact (Below.refl _ _).alloc (Nat.le_refl _) _
  have b3 : Below w.heap.size w w3 := hb2.trans (b23.mono hb2.size)
  have b13 : Below w1.heap.size w1 w3 := b2.trans (b23.mono b2.size)
  have hsz1 := HS1.out
  have gP3 := (b13.block w.heap.size (by omega)).trans GP.out
  have gD3 := (b13.block (w.heap.size + 1) (by omega)).trans GD.out
  have gE3 : w3.heap[w2.heap.size]? = some (.cells #[.slice (some ⟨gb, 0, none⟩) qs.length cb] 24 (0, 0)) := by rw [hw3]; exact World.alloc_heap_new _ _
  have hE : w.heap.size + 1 + 1 ≤ w2.heap.size := by have := b2.size; omega
  have OB := (show Hid (OwnN w1.heap.size w3 (.slice (some ⟨gb, 0, none⟩) qs.length cb) (qs.map (fun q => q.1))) from ob.below b23)
  have CC := (show Hid _ from HST.out w3 b3)
  have GA3 := (show Hid _ from (b3.block a hal).trans HA.out)
  have OQ3 := (show Hid (OwnQ B w3 (.slice (some ⟨g, 0, none⟩) qs.length cap) qs) from HO.out.below b3)
  have GP3 := (show Hid _ from gP3)
  have GD3 := (show Hid _ from gD3)
  have GE3 := (show Hid _ from gE3)
  have HE := (show Hid (w.heap.size + 1 + 1 ≤ w2.heap.size) from hE)
  have B3 := (show Hid (Below w.heap.size w w3) from b3)
  have HZ := (show Hid (w1.heap.size = w.heap.size + 1 + 1) from hsz1)
  have hw3s : w2.heap.size < w3.heap.size := lt_of_block gE3
  clear ob gP3 gD3 gE3 hE b3 b13 b23 b2 hb2 b1 hsz1 GP GD HS1 ca ca0
  go_wp2_with fail
  go_at_call 69
  rw [← hw3]
  refine Calls.mono CC.out ?_
  rintro e w4 ⟨rs, rfl, hrs, ⟨g', n', c', ga4, hqs⟩, tq⟩
  clear hw3 CC
  have gP4 := tq.box GP3.out (by decide) (by decide) (by omega)
  have gD4 := tq.box GD3.out (by decide) (by decide) (by omega)
  have gE4 := tq.box GE3.out (by decide) (by decide) (by have := HE.out; omega)
  have gA4 := ga4
  have f4 : OpFr B a w w4 := (OpFr.of_below B3.out).trans tq
  obtain ⟨cP4, _⟩ := one_cell gP4
  have F4 := (show Hid (OpFr B a w w4) from f4)
  have GP4 := (show Hid _ from gP4)
  have GD4 := (show Hid _ from gD4)
  have GE4 := (show Hid _ from gE4)
  have GA4 := (show Hid _ from gA4)
  have HRS := (show Hid (rs = true ↔ C) from hrs)
  have HQS := (show Hid (rs = true → ∃ qs', qs'.map (fun q => q.1) = ms ∧ OwnQ B w4 (.slice (some ⟨g', 0, none⟩) n' c') qs') from hqs)
  have hDl := lt_of_block gD4
  clear gP4 gD4 gE4 gA4 ga4 f4 tq hqs hrs GP3 GD3 GE3 GA3 OQ3 OB B3
  cases rs
  · have HNC : Hid (¬ C) := fun h => by have := HRS.out.mpr h; cases this
    have b44 : Below w4.heap.size w4 w4 := Below.refl _ _
    have gD6 := (b44.block _ (lt_of_block GD4.out)).trans GD4.out
    have g67 : w4.grownBy (w4.setCell ⟨w.heap.size + 1, 0, none⟩ (.bool false)) (some (w.heap.size + 1)) := grown_setCell _ _ _ _
    have b6s := b44.size
    have hE2 := HE.out
    have a7 : (w4.setCell ⟨w.heap.size + 1, 0, none⟩ (.bool false)).heap[a]? = some (.cells #[.slice (some ⟨g', 0, none⟩) n' c'] 77 (0, 0)) := (Below.heap_setCell _ _ _ a (by show a ≠ w.heap.size + 1; omega)).trans ((b44.block a (lt_of_block GA4.out)).trans GA4.out)
    have e7 : (w4.setCell ⟨w.heap.size + 1, 0, none⟩ (.bool false)).heap[w2.heap.size]? = some (.cells #[.slice (some ⟨gb, 0, none⟩) qs.length cb] 24 (0, 0)) := (Below.heap_setCell _ _ _ _ (by show w2.heap.size ≠ w.heap.size + 1; omega)).trans ((b44.block _ (lt_of_block GE4.out)).trans GE4.out)
    have p7 : (w4.setCell ⟨w.heap.size + 1, 0, none⟩ (.bool false)).heap[w.heap.size]? = some (.cells #[.pointer (some ⟨a, 0, none⟩)] 64 (0, 0)) := (Below.heap_setCell _ _ _ _ (by show w.heap.size ≠ w.heap.size + 1; omega)).trans ((b44.block _ (lt_of_block GP4.out)).trans GP4.out)
    have d7 : (w4.setCell ⟨w.heap.size + 1, 0, none⟩ (.bool false)).heap[w.heap.size + 1]? = some (.cells #[.bool false] 4 (0, 0)) := setCell_at gD6
    have f7 : OpFr B a w (w4.setCell ⟨w.heap.size + 1, 0, none⟩ (.bool false)) := (F4.out.trans (OpFr.of_below b44)).put g67 (.inr (by omega))
    have Z7 := (show Hid (_ ∧ _ ∧ _ ∧ _ ∧ OpFr B a w (w4.setCell ⟨w.heap.size + 1, 0, none⟩ (.bool false))) from ⟨a7, e7, p7, d7, f7⟩)
    obtain ⟨cD6, zD6⟩ := one_cell gD6
    clear a7 e7 p7 d7 f7 g67 gD6
    go_wp2
    refine leaves_cons (f := 104) (args := #[.pointer (some ⟨w.heap.size + 1, 0, none⟩), .pointer (some ⟨w2.heap.size, 0, none⟩), .pointer (some ⟨w.heap.size, 0, none⟩)]) (by simp) (by simp [go_sem]) ?_
    obtain ⟨a7, e7, p7, d7, f7⟩ := Z7.out
    refine (idone_any a7 d7 e7 ⟨_, _, _, rfl⟩ p7 _).mono ?_
    rintro e u' w8 ⟨rfl, rfl, rfl⟩
    have d8 := (Below.heap_setCell (w4.setCell ⟨w.heap.size + 1, 0, none⟩ (.bool false)) ⟨a, 0, none⟩ (.slice (some ⟨gb, 0, none⟩) qs.length cb) (w.heap.size + 1) (by show w.heap.size + 1 ≠ a; omega)).trans d7
    have c8 := (one_cell d8).1
    have a8 : ((w4.setCell ⟨w.heap.size + 1, 0, none⟩ (.bool false)).setCell ⟨a, 0, none⟩ (.slice (some ⟨gb, 0, none⟩) qs.length cb)).heap[a]? = some (.cells #[.slice (some ⟨gb, 0, none⟩) qs.length cb] 77 (0, 0)) := setCell_at a7
    have g78 : (w4.setCell ⟨w.heap.size + 1, 0, none⟩ (.bool false)).grownBy ((w4.setCell ⟨w.heap.size + 1, 0, none⟩ (.bool false)).setCell ⟨a, 0, none⟩ (.slice (some ⟨gb, 0, none⟩) qs.length cb)) (some a) := grown_setCell _ _ _ _
    have f8 := f7.put g78 (.inl rfl)
    exact ⟨.bool false, by simp [results, Tryz.results48, go_sem, c8], false, rfl, ⟨(fun h => by cases h), fun h => absurd h.1 HNC.out⟩, ⟨gb, _, _, a8, (fun h => by cases h), fun _ => rfl⟩, f8⟩
  · have HC : Hid C := HRS.out.mp rfl
    obtain ⟨qs', hm', oq'⟩ := HQS.out rfl
    have OQ := (show Hid (OwnQ B w4 (.slice (some ⟨g', 0, none⟩) n' c') qs') from oq')
    have HM := (show Hid (qs'.map (fun q => q.1) = ms) from hm')
    clear hm' oq' HRS HQS
    go_wp2_with fail
    go_at_call 51
    refine Calls.mono (itree_any GA4.out) ?_
    rintro e w5 ⟨rfl, b5⟩
    have B5 := (show Hid (Below w4.heap.size w4 w5) from b5)
    have CT := (show Hid _ from itreeOk_any (w := w5) (v := .slice (some ⟨g', 0, none⟩) n' c') (ns := ms) (by rw [← HM.out]; exact (OQ.out.below b5).n.nodes) HFM.out hml)
    clear b5
    go_wp2_with fail
    go_at_call 15
    refine Calls.mono CT.out ?_
    rintro e w6 ⟨r, rfl, hr, b6⟩
    clear CT
    have b46 : Below w4.heap.size w4 w6 := B5.out.trans (b6.mono B5.out.size)
    have HR := (show Hid (r = true ↔ TreeOkP ms) from hr)
    clear hr b6 B5 cP4
    cases r
    · have HNT : Hid (¬ TreeOkP ms) := fun h => by have := HR.out.mpr h; cases this
      have gD6 := (b46.block _ (lt_of_block GD4.out)).trans GD4.out
      have g67 : w6.grownBy (w6.setCell ⟨w.heap.size + 1, 0, none⟩ (.bool false)) (some (w.heap.size + 1)) := grown_setCell _ _ _ _
      have b6s := b46.size
      have hE2 := HE.out
      have a7 : (w6.setCell ⟨w.heap.size + 1, 0, none⟩ (.bool false)).heap[a]? = some (.cells #[.slice (some ⟨g', 0, none⟩) n' c'] 77 (0, 0)) := (Below.heap_setCell _ _ _ a (by show a ≠ w.heap.size + 1; omega)).trans ((b46.block a (lt_of_block GA4.out)).trans GA4.out)
      have e7 : (w6.setCell ⟨w.heap.size + 1, 0, none⟩ (.bool false)).heap[w2.heap.size]? = some (.cells #[.slice (some ⟨gb, 0, none⟩) qs.length cb] 24 (0, 0)) := (Below.heap_setCell _ _ _ _ (by show w2.heap.size ≠ w.heap.size + 1; omega)).trans ((b46.block _ (lt_of_block GE4.out)).trans GE4.out)
      have p7 : (w6.setCell ⟨w.heap.size + 1, 0, none⟩ (.bool false)).heap[w.heap.size]? = some (.cells #[.pointer (some ⟨a, 0, none⟩)] 64 (0, 0)) := (Below.heap_setCell _ _ _ _ (by show w.heap.size ≠ w.heap.size + 1; omega)).trans ((b46.block _ (lt_of_block GP4.out)).trans GP4.out)
      have d7 : (w6.setCell ⟨w.heap.size + 1, 0, none⟩ (.bool false)).heap[w.heap.size + 1]? = some (.cells #[.bool false] 4 (0, 0)) := setCell_at gD6
      have f7 : OpFr B a w (w6.setCell ⟨w.heap.size + 1, 0, none⟩ (.bool false)) := (F4.out.trans (OpFr.of_below b46)).put g67 (.inr (by omega))
      have Z7 := (show Hid (_ ∧ _ ∧ _ ∧ _ ∧ OpFr B a w (w6.setCell ⟨w.heap.size + 1, 0, none⟩ (.bool false))) from ⟨a7, e7, p7, d7, f7⟩)
      obtain ⟨cD6, zD6⟩ := one_cell gD6
      clear a7 e7 p7 d7 f7 g67 gD6
      go_wp2
      refine leaves_cons (f := 104) (args := #[.pointer (some ⟨w.heap.size + 1, 0, none⟩), .pointer (some ⟨w2.heap.size, 0, none⟩), .pointer (some ⟨w.heap.size, 0, none⟩)]) (by simp) (by simp [go_sem]) ?_
      obtain ⟨a7, e7, p7, d7, f7⟩ := Z7.out
      refine (idone_any a7 d7 e7 ⟨_, _, _, rfl⟩ p7 _).mono ?_
      rintro e u' w8 ⟨rfl, rfl, rfl⟩
      have d8 := (Below.heap_setCell (w6.setCell ⟨w.heap.size + 1, 0, none⟩ (.bool false)) ⟨a, 0, none⟩ (.slice (some ⟨gb, 0, none⟩) qs.length cb) (w.heap.size + 1) (by show w.heap.size + 1 ≠ a; omega)).trans d7
      have c8 := (one_cell d8).1
      have a8 : ((w6.setCell ⟨w.heap.size + 1, 0, none⟩ (.bool false)).setCell ⟨a, 0, none⟩ (.slice (some ⟨gb, 0, none⟩) qs.length cb)).heap[a]? = some (.cells #[.slice (some ⟨gb, 0, none⟩) qs.length cb] 77 (0, 0)) := setCell_at a7
      have g78 : (w6.setCell ⟨w.heap.size + 1, 0, none⟩ (.bool false)).grownBy ((w6.setCell ⟨w.heap.size + 1, 0, none⟩ (.bool false)).setCell ⟨a, 0, none⟩ (.slice (some ⟨gb, 0, none⟩) qs.length cb)) (some a) := grown_setCell _ _ _ _
      have f8 := f7.put g78 (.inl rfl)
      exact ⟨.bool false, by simp [results, Tryz.results48, go_sem, c8], false, rfl, ⟨(fun h => by cases h), fun h => absurd h.2 HNT.out⟩, ⟨gb, _, _, a8, (fun h => by cases h), fun _ => rfl⟩, f8⟩
    · have HT : Hid (TreeOkP ms) := HR.out.mp rfl
      have gD6' := (b46.block _ (lt_of_block GD4.out)).trans GD4.out
      have OM := (show Hid (OwnN B (w6.setCell ⟨w.heap.size + 1, 0, none⟩ (.bool true)) (.slice (some ⟨g', 0, none⟩) n' c') ms) from by
        have := ((OQ.out.below b46).n).kept (grown_setCell w6 (w.heap.size + 1) 0 (.bool true)) (fun q e => by cases e; exact ⟨_, _, _, gD6', by decide, by decide, by decide⟩)
        rwa [HM.out] at this)
      clear gD6'
      have gD6 := (b46.block _ (lt_of_block GD4.out)).trans GD4.out
      have g67 : w6.grownBy (w6.setCell ⟨w.heap.size + 1, 0, none⟩ (.bool true)) (some (w.heap.size + 1)) := grown_setCell _ _ _ _
      have b6s := b46.size
      have hE2 := HE.out
      have a7 : (w6.setCell ⟨w.heap.size + 1, 0, none⟩ (.bool true)).heap[a]? = some (.cells #[.slice (some ⟨g', 0, none⟩) n' c'] 77 (0, 0)) := (Below.heap_setCell _ _ _ a (by show a ≠ w.heap.size + 1; omega)).trans ((b46.block a (lt_of_block GA4.out)).trans GA4.out)
      have e7 : (w6.setCell ⟨w.heap.size + 1, 0, none⟩ (.bool true)).heap[w2.heap.size]? = some (.cells #[.slice (some ⟨gb, 0, none⟩) qs.length cb] 24 (0, 0)) := (Below.heap_setCell _ _ _ _ (by show w2.heap.size ≠ w.heap.size + 1; omega)).trans ((b46.block _ (lt_of_block GE4.out)).trans GE4.out)
      have p7 : (w6.setCell ⟨w.heap.size + 1, 0, none⟩ (.bool true)).heap[w.heap.size]? = some (.cells #[.pointer (some ⟨a, 0, none⟩)] 64 (0, 0)) := (Below.heap_setCell _ _ _ _ (by show w.heap.size ≠ w.heap.size + 1; omega)).trans ((b46.block _ (lt_of_block GP4.out)).trans GP4.out)
      have d7 : (w6.setCell ⟨w.heap.size + 1, 0, none⟩ (.bool true)).heap[w.heap.size + 1]? = some (.cells #[.bool true] 4 (0, 0)) := setCell_at gD6
      have f7 : OpFr B a w (w6.setCell ⟨w.heap.size + 1, 0, none⟩ (.bool true)) := (F4.out.trans (OpFr.of_below b46)).put g67 (.inr (by omega))
      have Z7 := (show Hid (_ ∧ _ ∧ _ ∧ _ ∧ OpFr B a w (w6.setCell ⟨w.heap.size + 1, 0, none⟩ (.bool true))) from ⟨a7, e7, p7, d7, f7⟩)
      obtain ⟨cD6, zD6⟩ := one_cell gD6
      clear a7 e7 p7 d7 f7 g67 gD6
      go_wp2
      refine leaves_cons (f := 104) (args := #[.pointer (some ⟨w.heap.size + 1, 0, none⟩), .pointer (some ⟨w2.heap.size, 0, none⟩), .pointer (some ⟨w.heap.size, 0, none⟩)]) (by simp) (by simp [go_sem]) ?_
      obtain ⟨a7, e7, p7, d7, f7⟩ := Z7.out
      refine (idone_any a7 d7 e7 ⟨_, _, _, rfl⟩ p7 _).mono ?_
      rintro e u' w8 ⟨rfl, rfl, rfl⟩
      have c8 := (one_cell d7).1
      exact ⟨.bool true, by simp [results, Tryz.results48, go_sem, c8], true, rfl, ⟨fun _ => ⟨HC.out, HT.out⟩, fun _ => rfl⟩, ⟨g', _, _, a7, (fun _ => OM.out), fun h => by cases h⟩, f7⟩
end Go.Proofs.YtogdbjafibejdaaGreat
