/- The program's TreeHang and TreeTake of a right tree (written by mk/ihang5.py). No condition. -/
import Derived.Test.YtogdbjafibejdaaGreatU38
import Derived.Test.YtogdbjafibejdaaGreatU27
import Derived.Test.YtogdbjafibejdaaGreatU26
import Derived.Test.YtogdbjafibejdaaGreatU16
import Derived.Test.YtogdbjafibejdaaGreatU15
import Derived.Test.YtogdbjafibejdaaGreatU2
namespace Go.Proofs.YtogdbjafibejdaaGreat
open Go.RowKit
set_option maxRecDepth 100000
set_option linter.unusedVariables false

theorem TreeHang_res {tmps : Array Value} {w : World} {g : Nat} {a : Option Addr} {n c : Nat} {i : Bool} (h4 : tmps.getD 6 undef = .pointer (some ⟨g, 0, none⟩)) (h5 : tmps.getD 7 undef = .bool i) (hb : w.heap[g]? = some (.cells #[.slice a n c] 26 (0, 0))) :
    (results Tryz.f12 tmps).run Tryz.prog w = .ok (.tuple #[.agg #[.slice a n c], .bool i]) w := by
  rw [results_cell_tmp (p := 6) (u := 7) (ty := 26) rfl, h4, h5]
  simp [asAddr, run_loadVar_row w g 26 26 #[.slice a n c] (0, 0) _ hb Tryz.underlying26 rfl rfl, Result.andThen]

set_option maxHeartbeats 2000000 in
set_option maxRecDepth 100000 in
theorem itreeHang_any {w : World} {v : Value} {ns : List PNode} (hn : NodesAt w v ns) (hfit : ∀ n ∈ ns, NodeFit n) (hlen : ns.length ≤ 1048576) (c p : Int) (ok : TreeOkP ns) :
    Calls Tryz.prog 12 #[.agg #[v], .int .i64 c, .int .i64 p] w fun e w' => ∃ (v' : Value) (r : Bool), e = .returned (.tuple #[.agg #[v'], .bool r]) ∧ (r = true ↔ (c ≠ 0 ∧ (0 ≤ c ∧ c < ns.length) ∧ (0 ≤ p ∧ p < ns.length)) ∧ TreeOkP (hangN ns c.toNat p.toNat)) ∧ NodesAt w' v' (if r = true then hangN ns c.toNat p.toNat else ns) ∧ Below w.heap.size w w' := by
  have hmf : ∀ (fn : Fn) (first cap : Array Value) (w : World), (Instr.makeFunc fn first cap).run Tryz.prog w = .ok (.func fn first cap) w := fun _ _ _ _ => rfl
  have HN := (show Hid (NodesAt w v ns) from hn)
  have HFIT := (show Hid (∀ n ∈ ns, NodeFit n) from hfit)
  have HOK := (show Hid (TreeOkP ns) from ok)
  have h1 := ok.one
  have h5 := ok.most
  obtain ⟨a, cap, rfl, hc1, hc2, _⟩ := hn.slice
  clear hn hfit ok
  obtain ⟨w1, hw1⟩ : ∃ x, x = (((w.alloc (.cells #[.slice a ns.length cap] 26)).alloc (.cells #[.int .i64 c] 3)).alloc (.cells #[.int .i64 p] 3)).alloc (.cells #[.slice none 0 0] 26) := ⟨_, rfl⟩
  have b1 : Below w.heap.size w w1 := by rw [hw1]; exact ((((Below.refl _ w).alloc (Nat.le_refl _) _).alloc (by simp only [World.size_alloc]; omega) _).alloc (by simp only [World.size_alloc]; omega) _).alloc (by simp only [World.size_alloc]; omega) _
  have hs1 : w1.heap.size = w.heap.size + 1 + 1 + 1 + 1 := by rw [hw1]; simp only [World.size_alloc]
  have g0 : w1.heap[w.heap.size]? = some (.cells #[.slice a ns.length cap] 26 (0, 0)) := by
    rw [hw1, Below.heap_alloc _ _ _ (by simp only [World.size_alloc]; omega), Below.heap_alloc _ _ _ (by simp only [World.size_alloc]; omega), Below.heap_alloc _ _ _ (by simp only [World.size_alloc]; omega)]
    have := World.alloc_heap_new (w) (.cells #[.slice a ns.length cap] 26)
    exact this
  have g1 : w1.heap[w.heap.size + 1]? = some (.cells #[.int .i64 c] 3 (0, 0)) := by
    rw [hw1, Below.heap_alloc _ _ _ (by simp only [World.size_alloc]; omega), Below.heap_alloc _ _ _ (by simp only [World.size_alloc]; omega)]
    have := World.alloc_heap_new (w.alloc (.cells #[.slice a ns.length cap] 26)) (.cells #[.int .i64 c] 3)
    rwa [World.size_alloc] at this
  have g2 : w1.heap[w.heap.size + 1 + 1]? = some (.cells #[.int .i64 p] 3 (0, 0)) := by
    rw [hw1, Below.heap_alloc _ _ _ (by simp only [World.size_alloc]; omega)]
    have := World.alloc_heap_new ((w.alloc (.cells #[.slice a ns.length cap] 26)).alloc (.cells #[.int .i64 c] 3)) (.cells #[.int .i64 p] 3)
    rwa [World.size_alloc, World.size_alloc] at this
  have g3 : w1.heap[w.heap.size + 1 + 1 + 1]? = some (.cells #[.slice none 0 0] 26 (0, 0)) := by
    rw [hw1]
    have := World.alloc_heap_new (((w.alloc (.cells #[.slice a ns.length cap] 26)).alloc (.cells #[.int .i64 c] 3)).alloc (.cells #[.int .i64 p] 3)) (.cells #[.slice none 0 0] 26)
    rwa [World.size_alloc, World.size_alloc, World.size_alloc] at this
  have HG := (show Hid (w1.heap[w.heap.size]? = some (.cells #[.slice a ns.length cap] 26 (0, 0)) ∧ w1.heap[w.heap.size + 1]? = some (.cells #[.int .i64 c] 3 (0, 0)) ∧ w1.heap[w.heap.size + 1 + 1]? = some (.cells #[.int .i64 p] 3 (0, 0)) ∧ w1.heap[w.heap.size + 1 + 1 + 1]? = some (.cells #[.slice none 0 0] 26 (0, 0))) from ⟨g0, g1, g2, g3⟩)
  have HS1 := (show Hid _ from hs1)
  have B1 := (show Hid (Below w.heap.size w w1) from b1)
  clear g0 g1 g2 g3 hs1 b1
  go_enter Tryz.func12, Tryz.ntmps12
  go_wp2_with fail
  go_at_call 47
  rw [← hw1]
  refine Calls.mono (iarenaA_any (HN.out.below B1.out) HFIT.out hlen) ?_
  rintro e w2 ⟨g, v2, rfl, ha2, hq2, _, hg, b2⟩
  clear hw1
  obtain ⟨qs, hq1, o2, a2⟩ := hq2 HOK.out
  have hql : qs.length = ns.length := by have := congrArg List.length hq1; simpa using this
  obtain ⟨gv, cv, rfl, hgv, hgvl⟩ := o2.form (by omega)
  obtain ⟨w4, hw4⟩ : ∃ x, x = w2.alloc (.cells #[.pointer (some ⟨g, 0, none⟩)] 64) := ⟨_, rfl⟩
  have b24 : Below w2.heap.size w2 w4 := by rw [hw4]; exact (Below.refl _ w2).alloc (Nat.le_refl _) _
  have hs4 : w4.heap.size = w2.heap.size + 1 := by rw [hw4, World.size_alloc]
  have gA : w4.heap[w2.heap.size]? = some (.cells #[.pointer (some ⟨g, 0, none⟩)] 64 (0, 0)) := by rw [hw4]; exact World.alloc_heap_new _ _
  have hgl := lt_of_block ha2
  have hs1 := HS1.out
  have b12 := b2.size
  have b14 : Below w1.heap.size w1 w4 := b2.trans (b24.mono b2.size)
  have bw4 : Below w.heap.size w w4 := B1.out.trans (b14.mono B1.out.size)
  have ha4 := (b24.block g hgl).trans ha2
  have o4 := o2.below b24
  have hpar : ∀ i (hi : i < qs.length), qs[i].1.parent = -1 ∨ ∃ p : Nat, qs[i].1.parent = p ∧ p < qs.length := fun i hi => by
    have h := par_ok HOK.out (i := i) (by omega)
    have e : parOf ns i = qs[i].1.parent := by rw [← hq1, parOf_at (by simpa using hi)]; simp
    rw [e] at h
    rw [hql]; exact h
  have hkl : ∀ q ∈ qs, q.1.kids.length ≤ 1048576 := fun q hq => (HFIT.out q.1 (by rw [← hq1]; exact List.mem_map.mpr ⟨q, hq, rfl⟩)).kl
  have hgs := HG.out
  have CC := (show Hid _ from ichangeHang (B := w1.heap.size) (a := g) (g := gv) (cap := cv) (w := w4) (qs := qs) (ms := hangN ns c.toNat p.toNat) (C := c ≠ 0 ∧ (0 ≤ c ∧ c < ns.length) ∧ (0 ≤ p ∧ p < ns.length)) (x0 := w2.heap.size) (x1 := w.heap.size + 1) (x2 := w.heap.size + 1 + 1) ha4 o4 b14.size (by omega) (by omega) (by rw [hq1]; exact HFIT.out) (hangN_fit (fun n hn => ⟨HFIT.out n hn, by have := kids_few HOK.out n hn; omega⟩)) (by simp [hangN_len]; omega)
    (fun W b => by
      have h := istepHang (B := w1.heap.size) ((b.block g (lt_of_block ha4)).trans ha4) (o4.below b) a2 (Nat.le_trans b14.size b.size) (by omega) hpar hkl c p ((b.block _ (lt_of_block gA)).trans gA) ((b.block _ (lt_of_block ((b14.block _ (by omega)).trans hgs.2.1))).trans ((b14.block _ (by omega)).trans hgs.2.1)) ((b.block _ (lt_of_block ((b14.block _ (by omega)).trans hgs.2.2.1))).trans ((b14.block _ (by omega)).trans hgs.2.2.1))
      rw [hq1, hql] at h
      rw [hql]
      exact h))
  have BW4 := (show Hid (Below w.heap.size w w4) from bw4)
  have GA := (show Hid _ from gA)
  have GR4 := (show Hid _ from (b14.block (w.heap.size + 1 + 1 + 1) (by omega)).trans hgs.2.2.2)
  obtain ⟨cA4, _⟩ := one_cell gA
  have HSS := (show Hid (w1.heap.size = w.heap.size + 1 + 1 + 1 + 1 ∧ w1.heap.size ≤ w2.heap.size ∧ w4.heap.size = w2.heap.size + 1 ∧ g < w2.heap.size ∧ w1.heap.size ≤ g) from ⟨hs1, b12, hs4, hgl, hg⟩)
  have HQ1 := (show Hid (qs.map (fun q => q.1) = ns) from hq1)
  clear gA b24 b14 bw4 hq1 hq2 o2 o4 ha2 ha4 b2 HG HS1 B1 hs4 hs1 b12 hgl hg hpar hkl hgs a2
  go_wp2_with fail
  go_at_call 48
  rw [← hw4]
  refine Calls.mono CC.out ?_
  rintro e w5 ⟨r, rfl, hr, ⟨g5, n5, c5, ha5, ho5⟩, fr5⟩
  clear CC hw4
  have hss := HSS.out
  have gA5 := fr5.box GA.out (by decide) (by decide) (by omega)
  have gR5 := fr5.box GR4.out (by decide) (by decide) (by omega)
  have b45 : Below w.heap.size w4 w5 := fr5.below (by omega) (by omega) (by omega)
  have b5 : Below w.heap.size w w5 := BW4.out.trans b45
  obtain ⟨cA5, _⟩ := one_cell gA5
  rw [HQ1.out] at ho5
  have HR := (show Hid _ from hr)
  have HO5 := (show Hid (OwnN w1.heap.size w5 (.slice (some ⟨g5, 0, none⟩) n5 c5) (if r = true then hangN ns c.toNat p.toNat else ns)) from ho5)
  have GR5 := (show Hid _ from gR5)
  have B5 := (show Hid (Below w.heap.size w w5) from b5)
  have HA5 := (show Hid _ from ha5)
  have hRl := lt_of_block gR5
  have hAl := lt_of_block gA5
  clear hr ho5 gR5 b5 b45 ha5 gA5 fr5 cA4 GA GR4 BW4 hss
  go_wp2_with fail
  go_at_call 51
  refine Calls.mono (itree_any HA5.out) ?_
  rintro e w6 ⟨rfl, b6⟩
  have gR6 := (b6.block _ hRl).trans GR5.out
  obtain ⟨cR6, zR6⟩ := one_cell gR6
  have GR6 := (show Hid _ from gR6)
  have B6 := (show Hid (Below w.heap.size w w6) from B5.out.trans (b6.mono B5.out.size))
  have HO6 := (show Hid (OwnN w1.heap.size w6 (.slice (some ⟨g5, 0, none⟩) n5 c5) (if r = true then hangN ns c.toNat p.toNat else ns)) from HO5.out.below b6)
  clear gR6 b6
  go_wp2
  refine bodyPost_ret (TreeHang_res rfl rfl (setCell_at GR6.out)) rfl ?_
  refine ⟨_, _, rfl, HR.out, ?_, B6.out.setCell (p := ⟨w.heap.size + 1 + 1 + 1, 0, none⟩) (by simp; omega) _⟩
  exact (HO6.out.kept (grown_setCell w6 (w.heap.size + 1 + 1 + 1) 0 (.slice (some ⟨g5, 0, none⟩) n5 c5)) (fun r e => by cases e; exact ⟨_, _, _, GR6.out, by decide, by decide, by decide⟩)).nodes

theorem TreeTake_res {tmps : Array Value} {w : World} {g : Nat} {a : Option Addr} {n c : Nat} {i : Bool} (h4 : tmps.getD 4 undef = .pointer (some ⟨g, 0, none⟩)) (h5 : tmps.getD 5 undef = .bool i) (hb : w.heap[g]? = some (.cells #[.slice a n c] 26 (0, 0))) :
    (results Tryz.f17 tmps).run Tryz.prog w = .ok (.tuple #[.agg #[.slice a n c], .bool i]) w := by
  rw [results_cell_tmp (p := 4) (u := 5) (ty := 26) rfl, h4, h5]
  simp [asAddr, run_loadVar_row w g 26 26 #[.slice a n c] (0, 0) _ hb Tryz.underlying26 rfl rfl, Result.andThen]

set_option maxHeartbeats 2000000 in
set_option maxRecDepth 100000 in
theorem itreeTake_any {w : World} {v : Value} {ns : List PNode} (hn : NodesAt w v ns) (hfit : ∀ n ∈ ns, NodeFit n) (hlen : ns.length ≤ 1048576) (c : Int) (ok : TreeOkP ns) :
    Calls Tryz.prog 17 #[.agg #[v], .int .i64 c] w fun e w' => ∃ (v' : Value) (r : Bool), e = .returned (.tuple #[.agg #[v'], .bool r]) ∧ (r = true ↔ (c ≠ 0 ∧ (0 ≤ c ∧ c < ns.length)) ∧ TreeOkP (takeN ns c.toNat)) ∧ NodesAt w' v' (if r = true then takeN ns c.toNat else ns) ∧ Below w.heap.size w w' := by
  have hmf : ∀ (fn : Fn) (first cap : Array Value) (w : World), (Instr.makeFunc fn first cap).run Tryz.prog w = .ok (.func fn first cap) w := fun _ _ _ _ => rfl
  have HN := (show Hid (NodesAt w v ns) from hn)
  have HFIT := (show Hid (∀ n ∈ ns, NodeFit n) from hfit)
  have HOK := (show Hid (TreeOkP ns) from ok)
  have h1 := ok.one
  have h5 := ok.most
  obtain ⟨a, cap, rfl, hc1, hc2, _⟩ := hn.slice
  clear hn hfit ok
  obtain ⟨w1, hw1⟩ : ∃ x, x = ((w.alloc (.cells #[.slice a ns.length cap] 26)).alloc (.cells #[.int .i64 c] 3)).alloc (.cells #[.slice none 0 0] 26) := ⟨_, rfl⟩
  have b1 : Below w.heap.size w w1 := by rw [hw1]; exact (((Below.refl _ w).alloc (Nat.le_refl _) _).alloc (by simp only [World.size_alloc]; omega) _).alloc (by simp only [World.size_alloc]; omega) _
  have hs1 : w1.heap.size = w.heap.size + 1 + 1 + 1 := by rw [hw1]; simp only [World.size_alloc]
  have g0 : w1.heap[w.heap.size]? = some (.cells #[.slice a ns.length cap] 26 (0, 0)) := by
    rw [hw1, Below.heap_alloc _ _ _ (by simp only [World.size_alloc]; omega), Below.heap_alloc _ _ _ (by simp only [World.size_alloc]; omega)]
    have := World.alloc_heap_new (w) (.cells #[.slice a ns.length cap] 26)
    exact this
  have g1 : w1.heap[w.heap.size + 1]? = some (.cells #[.int .i64 c] 3 (0, 0)) := by
    rw [hw1, Below.heap_alloc _ _ _ (by simp only [World.size_alloc]; omega)]
    have := World.alloc_heap_new (w.alloc (.cells #[.slice a ns.length cap] 26)) (.cells #[.int .i64 c] 3)
    rwa [World.size_alloc] at this
  have g2 : w1.heap[w.heap.size + 1 + 1]? = some (.cells #[.slice none 0 0] 26 (0, 0)) := by
    rw [hw1]
    have := World.alloc_heap_new ((w.alloc (.cells #[.slice a ns.length cap] 26)).alloc (.cells #[.int .i64 c] 3)) (.cells #[.slice none 0 0] 26)
    rwa [World.size_alloc, World.size_alloc] at this
  have HG := (show Hid (w1.heap[w.heap.size]? = some (.cells #[.slice a ns.length cap] 26 (0, 0)) ∧ w1.heap[w.heap.size + 1]? = some (.cells #[.int .i64 c] 3 (0, 0)) ∧ w1.heap[w.heap.size + 1 + 1]? = some (.cells #[.slice none 0 0] 26 (0, 0))) from ⟨g0, g1, g2⟩)
  have HS1 := (show Hid _ from hs1)
  have B1 := (show Hid (Below w.heap.size w w1) from b1)
  clear g0 g1 g2 hs1 b1
  go_enter Tryz.func17, Tryz.ntmps17
  go_wp2_with fail
  go_at_call 47
  rw [← hw1]
  refine Calls.mono (iarenaA_any (HN.out.below B1.out) HFIT.out hlen) ?_
  rintro e w2 ⟨g, v2, rfl, ha2, hq2, _, hg, b2⟩
  clear hw1
  obtain ⟨qs, hq1, o2, a2⟩ := hq2 HOK.out
  have hql : qs.length = ns.length := by have := congrArg List.length hq1; simpa using this
  obtain ⟨gv, cv, rfl, hgv, hgvl⟩ := o2.form (by omega)
  obtain ⟨w4, hw4⟩ : ∃ x, x = w2.alloc (.cells #[.pointer (some ⟨g, 0, none⟩)] 64) := ⟨_, rfl⟩
  have b24 : Below w2.heap.size w2 w4 := by rw [hw4]; exact (Below.refl _ w2).alloc (Nat.le_refl _) _
  have hs4 : w4.heap.size = w2.heap.size + 1 := by rw [hw4, World.size_alloc]
  have gA : w4.heap[w2.heap.size]? = some (.cells #[.pointer (some ⟨g, 0, none⟩)] 64 (0, 0)) := by rw [hw4]; exact World.alloc_heap_new _ _
  have hgl := lt_of_block ha2
  have hs1 := HS1.out
  have b12 := b2.size
  have b14 : Below w1.heap.size w1 w4 := b2.trans (b24.mono b2.size)
  have bw4 : Below w.heap.size w w4 := B1.out.trans (b14.mono B1.out.size)
  have ha4 := (b24.block g hgl).trans ha2
  have o4 := o2.below b24
  have hpar : ∀ i (hi : i < qs.length), qs[i].1.parent = -1 ∨ ∃ p : Nat, qs[i].1.parent = p ∧ p < qs.length := fun i hi => by
    have h := par_ok HOK.out (i := i) (by omega)
    have e : parOf ns i = qs[i].1.parent := by rw [← hq1, parOf_at (by simpa using hi)]; simp
    rw [e] at h
    rw [hql]; exact h
  have hkl : ∀ q ∈ qs, q.1.kids.length ≤ 1048576 := fun q hq => (HFIT.out q.1 (by rw [← hq1]; exact List.mem_map.mpr ⟨q, hq, rfl⟩)).kl
  have hgs := HG.out
  have CC := (show Hid _ from ichangeTake (B := w1.heap.size) (a := g) (g := gv) (cap := cv) (w := w4) (qs := qs) (ms := takeN ns c.toNat) (C := c ≠ 0 ∧ (0 ≤ c ∧ c < ns.length)) (x0 := w2.heap.size) (x1 := w.heap.size + 1) ha4 o4 b14.size (by omega) (by omega) (by rw [hq1]; exact HFIT.out) (takeN_fit HFIT.out) (by simp [takeN_len]; omega)
    (fun W b => by
      have h := istepTake (B := w1.heap.size) ((b.block g (lt_of_block ha4)).trans ha4) (o4.below b) a2 (Nat.le_trans b14.size b.size) (by omega) hpar hkl c ((b.block _ (lt_of_block gA)).trans gA) ((b.block _ (lt_of_block ((b14.block _ (by omega)).trans hgs.2.1))).trans ((b14.block _ (by omega)).trans hgs.2.1))
      rw [hq1, hql] at h
      rw [hql]
      exact h))
  have BW4 := (show Hid (Below w.heap.size w w4) from bw4)
  have GA := (show Hid _ from gA)
  have GR4 := (show Hid _ from (b14.block (w.heap.size + 1 + 1) (by omega)).trans hgs.2.2)
  obtain ⟨cA4, _⟩ := one_cell gA
  have HSS := (show Hid (w1.heap.size = w.heap.size + 1 + 1 + 1 ∧ w1.heap.size ≤ w2.heap.size ∧ w4.heap.size = w2.heap.size + 1 ∧ g < w2.heap.size ∧ w1.heap.size ≤ g) from ⟨hs1, b12, hs4, hgl, hg⟩)
  have HQ1 := (show Hid (qs.map (fun q => q.1) = ns) from hq1)
  clear gA b24 b14 bw4 hq1 hq2 o2 o4 ha2 ha4 b2 HG HS1 B1 hs4 hs1 b12 hgl hg hpar hkl hgs a2
  go_wp2_with fail
  go_at_call 48
  rw [← hw4]
  refine Calls.mono CC.out ?_
  rintro e w5 ⟨r, rfl, hr, ⟨g5, n5, c5, ha5, ho5⟩, fr5⟩
  clear CC hw4
  have hss := HSS.out
  have gA5 := fr5.box GA.out (by decide) (by decide) (by omega)
  have gR5 := fr5.box GR4.out (by decide) (by decide) (by omega)
  have b45 : Below w.heap.size w4 w5 := fr5.below (by omega) (by omega) (by omega)
  have b5 : Below w.heap.size w w5 := BW4.out.trans b45
  obtain ⟨cA5, _⟩ := one_cell gA5
  rw [HQ1.out] at ho5
  have HR := (show Hid _ from hr)
  have HO5 := (show Hid (OwnN w1.heap.size w5 (.slice (some ⟨g5, 0, none⟩) n5 c5) (if r = true then takeN ns c.toNat else ns)) from ho5)
  have GR5 := (show Hid _ from gR5)
  have B5 := (show Hid (Below w.heap.size w w5) from b5)
  have HA5 := (show Hid _ from ha5)
  have hRl := lt_of_block gR5
  have hAl := lt_of_block gA5
  clear hr ho5 gR5 b5 b45 ha5 gA5 fr5 cA4 GA GR4 BW4 hss
  go_wp2_with fail
  go_at_call 51
  refine Calls.mono (itree_any HA5.out) ?_
  rintro e w6 ⟨rfl, b6⟩
  have gR6 := (b6.block _ hRl).trans GR5.out
  obtain ⟨cR6, zR6⟩ := one_cell gR6
  have GR6 := (show Hid _ from gR6)
  have B6 := (show Hid (Below w.heap.size w w6) from B5.out.trans (b6.mono B5.out.size))
  have HO6 := (show Hid (OwnN w1.heap.size w6 (.slice (some ⟨g5, 0, none⟩) n5 c5) (if r = true then takeN ns c.toNat else ns)) from HO5.out.below b6)
  clear gR6 b6
  go_wp2
  refine bodyPost_ret (TreeTake_res rfl rfl (setCell_at GR6.out)) rfl ?_
  refine ⟨_, _, rfl, HR.out, ?_, B6.out.setCell (p := ⟨w.heap.size + 1 + 1, 0, none⟩) (by simp; omega) _⟩
  exact (HO6.out.kept (grown_setCell w6 (w.heap.size + 1 + 1) 0 (.slice (some ⟨g5, 0, none⟩) n5 c5)) (fun r e => by cases e; exact ⟨_, _, _, GR6.out, by decide, by decide, by decide⟩)).nodes
end Go.Proofs.YtogdbjafibejdaaGreat

/- The program's TreeHang of a tree that is not right. No condition. -/
namespace Go.Proofs.YtogdbjafibejdaaGreat
open Go.RowKit
set_option maxRecDepth 100000
set_option linter.unusedVariables false

set_option maxHeartbeats 1000000 in
theorem itree_nil {w : World} {a : Nat} (ha : w.heap[a]? = some (.cells #[.slice none 0 0] 77 (0, 0))) :
    Calls Tryz.prog 51 #[.pointer (some ⟨a, 0, none⟩)] w fun e w' => e = .returned (.agg #[.slice none 0 0]) ∧ Below w.heap.size w w' := by
  have cA : w.cell? ⟨a, 0, none⟩ = some (.slice none 0 0) := by simp only [World.cell?, ha]; rfl
  have hlt := lt_of_block ha
  clear ha
  go_enter Tryz.func51, Tryz.ntmps51
  go_wp2
  have hz := heap_alloc_new w (.cells #[.slice none 0 0] 26)
  refine bodyPost_ret (results_cell_row rfl _ _ w.heap.size 26 _ (0, 0) _ rfl hz Tryz.underlying26 rfl rfl) rfl ?_
  exact ⟨rfl, (Below.refl _ _).alloc (Nat.le_refl _) _⟩

set_option maxHeartbeats 1000000 in
set_option maxRecDepth 100000 in
theorem ichange_nil {w : World} {a : Nat} (ha : w.heap[a]? = some (.cells #[.slice none 0 0] 77 (0, 0))) (f : Value) :
    Calls Tryz.prog 48 #[.pointer (some ⟨a, 0, none⟩), f] w fun e w' => e = .returned (.bool false) ∧ Below w.heap.size w w' := by
  have hal := lt_of_block ha
  obtain ⟨w1, hw1⟩ : ∃ x, x = (w.alloc (.cells #[.pointer (some ⟨a, 0, none⟩)] 64)).alloc (.cells #[.bool false] 4) := ⟨_, rfl⟩
  have b1 : Below w.heap.size w w1 := by rw [hw1]; exact ((Below.refl _ w).alloc (Nat.le_refl _) _).alloc (by simp) _
  have gP : w1.heap[w.heap.size]? = some (.cells #[.pointer (some ⟨a, 0, none⟩)] 64 (0, 0)) := by rw [hw1, Below.heap_alloc _ _ _ (by simp)]; exact World.alloc_heap_new _ _
  have gD : w1.heap[w.heap.size + 1]? = some (.cells #[.bool false] 4 (0, 0)) := by
    rw [hw1]
    have := World.alloc_heap_new (w.alloc (.cells #[.pointer (some ⟨a, 0, none⟩)] 64)) (.cells #[.bool false] 4)
    rwa [World.size_alloc] at this
  obtain ⟨ca, _⟩ := one_cell ((b1.block a hal).trans ha)
  obtain ⟨cP, _⟩ := one_cell gP
  obtain ⟨cD, zD⟩ := one_cell gD
  have GD := (show Hid _ from gD)
  have B1 := (show Hid (Below w.heap.size w w1) from b1)
  clear gP gD b1 ha
  go_enter Tryz.func48, Tryz.ntmps48
  go_upto_region 1 with fail
  rw [← hw1]
  clear hw1
  go_wp2
  have gs := setCell_at (k := 0) (u := .bool false) GD.out
  have c8 := (one_cell gs).1
  have B2 := (show Hid (Below w.heap.size w (w1.setCell ⟨w.heap.size + 1, 0, none⟩ (.bool false))) from B1.out.setCell (p := ⟨w.heap.size + 1, 0, none⟩) (by simp) _)
  refine bodyPost_ret (show _ = Result.ok (Value.bool false) (w1.setCell ⟨w.heap.size + 1, 0, none⟩ (.bool false)) by simp [results, Tryz.results48, go_sem, c8]) rfl ?_
  exact ⟨rfl, B2.out⟩

set_option maxHeartbeats 2000000 in
set_option maxRecDepth 100000 in
theorem itreeHang_no {w : World} {v : Value} {ns : List PNode} (hn : NodesAt w v ns) (hfit : ∀ n ∈ ns, NodeFit n) (hlen : ns.length ≤ 1048576) (c p : Int) (no : ¬ TreeOkP ns) :
    Calls Tryz.prog 12 #[.agg #[v], .int .i64 c, .int .i64 p] w fun e w' => e = .returned (.tuple #[.agg #[.slice none 0 0], .bool false]) ∧ Below w.heap.size w w' := by
  have hmf : ∀ (fn : Fn) (first cap : Array Value) (w : World), (Instr.makeFunc fn first cap).run Tryz.prog w = .ok (.func fn first cap) w := fun _ _ _ _ => rfl
  have HN := (show Hid (NodesAt w v ns) from hn)
  have HFIT := (show Hid (∀ n ∈ ns, NodeFit n) from hfit)
  have HNO := (show Hid (¬ TreeOkP ns) from no)
  obtain ⟨a, cap, rfl, hc1, hc2, _⟩ := hn.slice
  clear hn hfit no
  obtain ⟨w1, hw1⟩ : ∃ x, x = (((w.alloc (.cells #[.slice a ns.length cap] 26)).alloc (.cells #[.int .i64 c] 3)).alloc (.cells #[.int .i64 p] 3)).alloc (.cells #[.slice none 0 0] 26) := ⟨_, rfl⟩
  have b1 : Below w.heap.size w w1 := by rw [hw1]; exact ((((Below.refl _ w).alloc (Nat.le_refl _) _).alloc (by simp only [World.size_alloc]; omega) _).alloc (by simp only [World.size_alloc]; omega) _).alloc (by simp only [World.size_alloc]; omega) _
  have hs1 : w1.heap.size = w.heap.size + 1 + 1 + 1 + 1 := by rw [hw1]; simp only [World.size_alloc]
  have g0 : w1.heap[w.heap.size]? = some (.cells #[.slice a ns.length cap] 26 (0, 0)) := by
    rw [hw1, Below.heap_alloc _ _ _ (by simp only [World.size_alloc]; omega), Below.heap_alloc _ _ _ (by simp only [World.size_alloc]; omega), Below.heap_alloc _ _ _ (by simp only [World.size_alloc]; omega)]
    have := World.alloc_heap_new (w) (.cells #[.slice a ns.length cap] 26)
    exact this
  have g1 : w1.heap[w.heap.size + 1]? = some (.cells #[.int .i64 c] 3 (0, 0)) := by
    rw [hw1, Below.heap_alloc _ _ _ (by simp only [World.size_alloc]; omega), Below.heap_alloc _ _ _ (by simp only [World.size_alloc]; omega)]
    have := World.alloc_heap_new (w.alloc (.cells #[.slice a ns.length cap] 26)) (.cells #[.int .i64 c] 3)
    rwa [World.size_alloc] at this
  have g2 : w1.heap[w.heap.size + 1 + 1]? = some (.cells #[.int .i64 p] 3 (0, 0)) := by
    rw [hw1, Below.heap_alloc _ _ _ (by simp only [World.size_alloc]; omega)]
    have := World.alloc_heap_new ((w.alloc (.cells #[.slice a ns.length cap] 26)).alloc (.cells #[.int .i64 c] 3)) (.cells #[.int .i64 p] 3)
    rwa [World.size_alloc, World.size_alloc] at this
  have g3 : w1.heap[w.heap.size + 1 + 1 + 1]? = some (.cells #[.slice none 0 0] 26 (0, 0)) := by
    rw [hw1]
    have := World.alloc_heap_new (((w.alloc (.cells #[.slice a ns.length cap] 26)).alloc (.cells #[.int .i64 c] 3)).alloc (.cells #[.int .i64 p] 3)) (.cells #[.slice none 0 0] 26)
    rwa [World.size_alloc, World.size_alloc, World.size_alloc] at this
  have HG := (show Hid (w1.heap[w.heap.size]? = some (.cells #[.slice a ns.length cap] 26 (0, 0)) ∧ w1.heap[w.heap.size + 1]? = some (.cells #[.int .i64 c] 3 (0, 0)) ∧ w1.heap[w.heap.size + 1 + 1]? = some (.cells #[.int .i64 p] 3 (0, 0)) ∧ w1.heap[w.heap.size + 1 + 1 + 1]? = some (.cells #[.slice none 0 0] 26 (0, 0))) from ⟨g0, g1, g2, g3⟩)
  have HS1 := (show Hid _ from hs1)
  have B1 := (show Hid (Below w.heap.size w w1) from b1)
  clear g0 g1 g2 g3 hs1 b1
  go_enter Tryz.func12, Tryz.ntmps12
  go_wp2_with fail
  go_at_call 47
  rw [← hw1]
  refine Calls.mono (iarenaA_any (HN.out.below B1.out) HFIT.out hlen) ?_
  rintro e w2 ⟨g, v2, rfl, ha2, _, hno, hg, b2⟩
  clear hw1
  obtain rfl := hno HNO.out
  obtain ⟨w4, hw4⟩ : ∃ x, x = w2.alloc (.cells #[.pointer (some ⟨g, 0, none⟩)] 64) := ⟨_, rfl⟩
  have b24 : Below w2.heap.size w2 w4 := by rw [hw4]; exact (Below.refl _ w2).alloc (Nat.le_refl _) _
  have gA : w4.heap[w2.heap.size]? = some (.cells #[.pointer (some ⟨g, 0, none⟩)] 64 (0, 0)) := by rw [hw4]; exact World.alloc_heap_new _ _
  have hgl := lt_of_block ha2
  have hs1 := HS1.out
  have b14 : Below w1.heap.size w1 w4 := b2.trans (b24.mono b2.size)
  have bw4 : Below w.heap.size w w4 := B1.out.trans (b14.mono B1.out.size)
  have ha4 := (b24.block g hgl).trans ha2
  have hgs := HG.out
  have CC := (show Hid _ from fun f => ichange_nil ha4 f)
  have BW4 := (show Hid (Below w.heap.size w w4) from bw4)
  have GA := (show Hid _ from gA)
  have HA4 := (show Hid _ from ha4)
  have GR4 := (show Hid _ from (b14.block (w.heap.size + 1 + 1 + 1) (by omega)).trans hgs.2.2.2)
  obtain ⟨cA4, _⟩ := one_cell gA
  clear gA b24 b14 bw4 ha2 ha4 b2 HG HS1 B1 hs1 hgl hg hgs hno
  go_wp2_with fail
  go_at_call 48
  rw [← hw4]
  refine Calls.mono (CC.out _) ?_
  rintro e w5 ⟨rfl, b5⟩
  clear CC hw4
  have gA5 := (b5.block _ (lt_of_block GA.out)).trans GA.out
  have gR5 := (b5.block _ (lt_of_block GR4.out)).trans GR4.out
  have ha5 := (b5.block _ (lt_of_block HA4.out)).trans HA4.out
  have B5 := (show Hid (Below w.heap.size w w5) from BW4.out.trans (b5.mono BW4.out.size))
  obtain ⟨cA5, _⟩ := one_cell gA5
  have GR5 := (show Hid _ from gR5)
  have HA5 := (show Hid _ from ha5)
  have hRl := lt_of_block gR5
  clear gR5 gA5 ha5 b5 cA4 GA GR4 BW4 HA4
  go_wp2_with fail
  go_at_call 51
  refine Calls.mono (itree_nil HA5.out) ?_
  rintro e w6 ⟨rfl, b6⟩
  have gR6 := (b6.block _ hRl).trans GR5.out
  obtain ⟨cR6, zR6⟩ := one_cell gR6
  have GR6 := (show Hid _ from gR6)
  have B6 := (show Hid (Below w.heap.size w w6) from B5.out.trans (b6.mono B5.out.size))
  clear gR6 b6
  go_wp2
  refine bodyPost_ret (TreeHang_res rfl rfl (setCell_at GR6.out)) rfl ?_
  exact ⟨rfl, B6.out.setCell (p := ⟨w.heap.size + 1 + 1 + 1, 0, none⟩) (by simp; omega) _⟩
end Go.Proofs.YtogdbjafibejdaaGreat

/- A range over an iterator, its body with memory of its own that grows: which blocks are the body's is told by a set. No condition. -/
namespace Go.Proofs.YtogdbjafibejdaaGreat
open Go.RowKit
set_option maxRecDepth 100000
set_option linter.unusedVariables false

/-- Cells of one of these types. -/
def InT (T : TypeId → Prop) (o : Obj) : Prop := ∃ cs t fr, o = .cells cs t fr ∧ T t
/-- Of W nothing is turned but cells of blocks in S or of the types T, from n0 on; the set S' has what S has, and new blocks. -/
structure Kz (n0 : Nat) (T : TypeId → Prop) (S S' : Nat → Prop) (W W' : World) : Prop where
  os : W'.os = W.os
  tape : W'.tape = W.tape
  output : W'.output = W.output
  size : W.heap.size ≤ W'.heap.size
  same : ∀ (k : Nat) (o : Obj), W.heap[k]? = some o → (k < n0 ∨ (¬ S k ∧ ¬ InT T o) ∨ o.isCells = false) → W'.heap[k]? = some o
  sub : ∀ k, S' k → k < W'.heap.size ∧ (S k ∨ W.heap.size ≤ k)
theorem Kz.refl {n0 : Nat} {T : TypeId → Prop} {S : Nat → Prop} {W : World} (h : ∀ k, S k → k < W.heap.size) : Kz n0 T S S W W := ⟨rfl, rfl, rfl, Nat.le_refl _, fun _ _ h _ => h, fun k hk => ⟨h k hk, .inl hk⟩⟩
theorem Kz.trans {n0 : Nat} {T : TypeId → Prop} {S S1 S2 : Nat → Prop} {A B C : World} (h : Kz n0 T S S1 A B) (k : Kz n0 T S1 S2 B C) : Kz n0 T S S2 A C :=
  ⟨k.os.trans h.os, k.tape.trans h.tape, k.output.trans h.output, Nat.le_trans h.size k.size, fun i o hi ho => k.same i o (h.same i o hi ho) (by
    rcases ho with ho | ho | ho
    · exact .inl ho
    · refine .inr (.inl ⟨fun hs => ?_, ho.2⟩)
      rcases (h.sub i hs).2 with h1 | h1
      · exact ho.1 h1
      · have := blk_lt hi; omega
    · exact .inr (.inr ho)), fun i hi => ⟨(k.sub i hi).1, by
      rcases (k.sub i hi).2 with h1 | h1
      · exact (h.sub i h1).2
      · exact .inr (by have := h.size; omega)⟩⟩
theorem Kz.below {n0 : Nat} {T : TypeId → Prop} {S S' : Nat → Prop} {A B : World} (h : Kz n0 T S S' A B) (hn : n0 ≤ A.heap.size) : Below n0 A B :=
  ⟨h.os, h.tape, h.output, h.size, fun k hk => by
    have hlt : k < A.heap.size := by omega
    rw [h.same k A.heap[k] (by simp [hlt]) (.inl hk)]
    simp [hlt]⟩
theorem Kz.keeps {n0 : Nat} {T : TypeId → Prop} {S S' : Nat → Prop} {A B : World} (h : Kz n0 T S S' A B) : KeepsOthers A B := ⟨h.size, fun k o hk ho => h.same k o hk (.inr (.inr ho))⟩
theorem Kz.of_below {n0 : Nat} {T : TypeId → Prop} {S : Nat → Prop} {A B : World} (h : Below A.heap.size A B) (hs : ∀ k, S k → k < A.heap.size) : Kz n0 T S S A B :=
  ⟨h.os, h.tape, h.output, h.size, fun k o hk _ => (h.block k (blk_lt hk)).trans hk, fun k hk => ⟨Nat.lt_of_lt_of_le (hs k hk) h.size, .inl hk⟩⟩
/-- Objects of the iterator's own are turned besides. -/
theorem Kz.own {n0 B : Nat} {T : TypeId → Prop} {S S' : Nat → Prop} {W0 W W' : World} {row : Option Nat} (h : Kz n0 T S S' W0 W) (hB : W0.heap.size ≤ B) (hg : W.grownBy W' row) (hr : ∀ r, row = some r → B ≤ r) : Kz n0 T S S' W0 W' :=
  ⟨hg.os.trans h.os, hg.tape.trans h.tape, hg.output.trans h.output, Nat.le_trans h.size hg.size, fun k o hk ho => by
    have h1 := h.same k o hk ho
    rw [hg.block k (blk_lt h1) (fun e => by have := hr k e.symm; have := blk_lt hk; omega)]
    exact h1, fun k hk => ⟨Nat.lt_of_lt_of_le (h.sub k hk).1 hg.size, (h.sub k hk).2⟩⟩

/-- What is below n0 and n1, and the cells of the blocks in S and of the types T are as they were. -/
structure Agree (n0 n1 : Nat) (T : TypeId → Prop) (S : Nat → Prop) (W W' : World) : Prop where
  os : W'.os = W.os
  tape : W'.tape = W.tape
  output : W'.output = W.output
  size : W.heap.size ≤ W'.heap.size
  same : ∀ (k : Nat) (o : Obj), W.heap[k]? = some o → (k < n0 ∨ (S k ∧ o.isCells = true) ∨ InT T o ∨ k < n1) → W'.heap[k]? = some o
def FreeS (n0 n1 : Nat) (T : TypeId → Prop) (J : (Nat → Prop) → List Int → World → Prop) : Prop := ∀ S pre W W', J S pre W → Agree n0 n1 T S W W' → J S pre W'
theorem Agree.of_below {n0 n1 : Nat} {T : TypeId → Prop} {S : Nat → Prop} {A B : World} (h : Below A.heap.size A B) : Agree n0 n1 T S A B := ⟨h.os, h.tape, h.output, h.size, fun k o hk _ => (h.block k (blk_lt hk)).trans hk⟩
/-- An object of the iterator's own is turned: no cells of S, nothing below n0, none of the objects below n1. -/
theorem Agree.own {n0 n1 : Nat} {T : TypeId → Prop} {S : Nat → Prop} {W W' : World} {row : Option Nat} (hg : W.grownBy W' row) (hr : ∀ r, row = some r → n0 ≤ r ∧ n1 ≤ r ∧ ((¬ S r ∧ ∀ o, W.heap[r]? = some o → ¬ InT T o) ∨ ∃ o : Obj, W.heap[r]? = some o ∧ o.isCells = false)) : Agree n0 n1 T S W W' :=
  ⟨hg.os, hg.tape, hg.output, hg.size, fun k o hk ho => by
    rw [hg.block k (blk_lt hk) (fun e => by
      obtain ⟨h0, h1, h2⟩ := hr k e.symm
      rcases ho with ho | ho | ho | ho
      · omega
      · rcases h2 with h2 | ⟨o', e1, e2⟩
        · exact h2.1 ho.1
        · rw [hk] at e1; cases e1; rw [ho.2] at e2; cases e2
      · rcases h2 with h2 | ⟨o', e1, e2⟩
        · exact h2.2 o hk ho
        · rw [hk] at e1; cases e1; obtain ⟨cs, t, fr, rfl, _⟩ := ho; cases e2
      · omega)]
    exact hk⟩

/-- The iterator's word: it tells 'all', one behind the other, to whatever body goes on. -/
def SeqTells2 (P : Program) (T : TypeId → Prop) (g : Nat) (lb : Array Value) (n0 : Nat) (all : List Int) (w : World) : Prop :=
  ∀ (n l n1 : Nat) (J : (Nat → Prop) → List Int → World → Prop) (S : Nat → Prop) (W : World), Below w.heap.size w W → n1 ≤ W.heap.size → n0 ≤ W.heap.size → (∀ k, S k → k < W.heap.size) → FreeS n0 n1 T J →
    (∀ m S pre x W1, pre ++ [x] <+: all → J S pre W1 → (∀ k, S k → k < W1.heap.size) → YieldAt Fence.wide m P l #[.int .i64 x] W1 fun e W' => e = .returned (.bool true) ∧ ∃ S', J S' (pre ++ [x]) W' ∧ Kz n0 T S S' W1 W') →
    J S [] W → CallsIn Fence.wide n P g (#[.func (.yield l) #[] #[]] ++ lb) W fun e W' => (∃ v, e = .returned v) ∧ ∃ S', J S' all W' ∧ Kz n0 T S S' W W'

theorem wpIn_tells2 {P : Program} {T : TypeId → Prop} {n : Nat} {g : Operand} {p : Tmp} {assign body : Code} {Q : Exit → Act → World → Prop} {a : Act} {w w0 : World} {n0 : Nat} {all : List Int}
    {gf : Nat} {lb : Array Value} (hg : a.eval g = .func (.func gf) #[] lb) (eg : ∀ args w, (callFunc gf args).run P w = .ok (.enter gf args) w)
    (hseq : SeqTells2 P T gf lb n0 all w0) (hb0 : Below w0.heap.size w0 w) (hn0 : n0 ≤ w.heap.size)
    (I : (Nat → Prop) → List Int → World → Prop) (hF : FreeS n0 w.heap.size T I) (S0 : Nat → Prop) (hS0 : ∀ k, S0 k → k < w.heap.size) (h0 : I S0 [] w) (a1 : Int → Act)
    (hassign : ∀ (l m : Nat) (x : Int) (W : World) (K : Act → World → Prop), K (a1 x) W → assign.wpIn (Fence.wide.inRound l) m P (Exit.then K (fun _ _ _ => False)) { tmps := a.tmps.setIfInBounds p (.int .i64 x), defers := [] } W)
    (hbody : ∀ (l m : Nat) (S : Nat → Prop) (pre : List Int) (x : Int) (W : World), pre ++ [x] <+: all → I S pre W → (∀ k, S k → k < W.heap.size) → body.wpIn (Fence.wide.inRound l) m P (fun e _ W' => e = .normal ∧ ∃ S', Kz n0 T S S' W W' ∧ I S' (pre ++ [x]) W') (a1 x) W)
    (hdone : ∀ (D : Nat) (S' : Nat → Prop) (W : World), w.heap.size ≤ D → I S' all W → Kz n0 T S0 S' w W → W.heap[D]? = some (.deferred (some [])) → Q .normal { a with defers := { target := .collected D, args := #[] } :: a.defers } W) :
    (Code.rangeFunc g #[p] assign body).wpIn Fence.wide n P Q a w := by
  refine wpIn_rangeFunc fun fn hfn => ?_
  let rc : LoopState → Loop := fun st => { state := st, pending := none, fn, tmps := a.tmps, params := #[p], assign, body, defers := w.heap.size }
  have hW1 : Below w.heap.size w ((w.alloc (.deferred (some []))).alloc (.loop (rc .ready))) := ((Below.refl _ w).alloc (Nat.le_refl _) _).alloc (by simp) _
  have hl1 : ((w.alloc (.deferred (some []))).alloc (.loop (rc .ready))).heap[w.heap.size + 1]? = some (.loop (rc .ready)) := by
    have := World.alloc_heap_new (w.alloc (.deferred (some []))) (.loop (rc .ready)); rwa [World.size_alloc] at this
  have hd1 : ((w.alloc (.deferred (some []))).alloc (.loop (rc .ready))).heap[w.heap.size]? = some (.deferred (some [])) := (Below.heap_alloc _ _ _ (by simp)).trans (World.alloc_heap_new w _)
  have hs1 : ((w.alloc (.deferred (some []))).alloc (.loop (rc .ready))).heap.size = w.heap.size + 2 := by simp
  refine ⟨w.heap.size + 1, [{ target := .collected w.heap.size, args := #[] }], ((w.alloc (.deferred (some []))).alloc (.loop (rc .ready))), { target := .fn (.func gf) lb, args := #[.func (.yield (w.heap.size + 1)) #[] #[]] }, ((w.alloc (.deferred (some []))).alloc (.loop (rc .ready))), gf, #[.func (.yield (w.heap.size + 1)) #[] #[]] ++ lb, ((w.alloc (.deferred (some []))).alloc (.loop (rc .ready))), run_enterLoop_outer _ _ _ _ _, ?_, fun _ _ => trivial, ?_, fun h => (by cases h), ?_⟩
  · simp only [resolve, hg]
    simp [go_sem]
  · simp [invoke, go_sem, eg]
  · have hJ : FreeS n0 (w.heap.size + 2) T (fun S pre W => I S pre W ∧ W.heap[w.heap.size + 1]? = some (.loop (rc .ready)) ∧ W.heap[w.heap.size]? = some (.deferred (some []))) := fun S pre A B hs hag =>
      ⟨hF S pre A B hs.1 ⟨hag.os, hag.tape, hag.output, hag.size, fun k o hk ho => hag.same k o hk (by
        rcases ho with ho | ho | ho | ho
        · exact .inl ho
        · exact .inr (.inl ho)
        · exact .inr (.inr (.inl ho))
        · exact .inr (.inr (.inr (by omega))))⟩, hag.same _ _ hs.2.1 (.inr (.inr (.inr (by omega)))), hag.same _ _ hs.2.2 (.inr (.inr (.inr (by omega))))⟩
    refine (hseq (n - 1) (w.heap.size + 1) (w.heap.size + 2) _ S0 _ (hb0.trans (hW1.mono hb0.size)) (by simp) (by simp; omega) (fun k hk => by have := hS0 k hk; omega) hJ ?_ ⟨hF _ _ _ _ h0 (Agree.of_below hW1), hl1, hd1⟩).mono ?_
    · rintro m S pre x W hxa ⟨hi, hl, hd⟩ hSW
      have hy := run_yield (P := P) (args := #[Value.int .i64 x]) hl rfl
      have htm : ((rc .ready).params.zip #[Value.int .i64 x]).foldl (fun tmps (t, a) => tmps.setIfInBounds t a) (rc .ready).tmps = a.tmps.setIfInBounds p (.int .i64 x) := by simp [rc]
      rw [htm] at hy
      refine ⟨fn, _, assign, body, hy, roundIn_of_wpIn hfn (hassign _ _ x W _ ⟨_, run_beginRound hl rfl, ?_⟩)⟩
      have hlt := blk_lt hl
      have hl2 : (W.putObj (w.heap.size + 1) (.loop { rc .ready with state := .busy })).heap[w.heap.size + 1]? = some (.loop { rc .ready with state := .busy }) := World.putObj_heap_same hlt
      have hag2 : Agree n0 w.heap.size T S W (W.putObj (w.heap.size + 1) (.loop { rc .ready with state := .busy })) := Agree.own (grownBy_putObj' _ _ _) (fun r e => by cases e; exact ⟨by omega, by omega, .inr ⟨_, hl, rfl⟩⟩)
      refine wpIn_mono (hbody _ _ S pre x _ hxa (hF _ _ _ _ hi hag2) (fun k hk => by have := hSW k hk; simpa using this)) ?_
      rintro e a3 W3 ⟨rfl, S', hk3, hi3⟩
      have hl3 := hk3.same _ _ hl2 (.inr (.inr rfl))
      have he := run_endRound (P := P) none hl3
      have hag3 : Agree n0 w.heap.size T S' W3 (W3.putObj (w.heap.size + 1) (.loop (rc .ready))) := Agree.own (grownBy_putObj' _ _ _) (fun r e => by cases e; exact ⟨by omega, by omega, .inr ⟨_, hl3, rfl⟩⟩)
      refine ⟨_, _, he, rfl, S', ⟨hF _ _ _ _ hi3 hag3, World.putObj_heap_same (blk_lt hl3), ?_⟩, hk3.os, hk3.tape, hk3.output, ?_, fun k o hk ho => ?_, fun k hk => ?_⟩
      · rw [World.putObj_heap_other (by omega)]
        exact hk3.same _ _ ((World.putObj_heap_other (by omega)).trans hd) (.inr (.inr rfl))
      · have := hk3.size; simpa using this
      · by_cases hkl : k = w.heap.size + 1
        · subst hkl
          rw [hl] at hk
          cases hk
          exact World.putObj_heap_same (blk_lt hl3)
        · rw [World.putObj_heap_other hkl]
          exact hk3.same k o ((World.putObj_heap_other hkl).trans hk) ho
      · have := hk3.sub k hk
        simpa using this
    · rintro e W2 ⟨⟨v, rfl⟩, S', ⟨hi, hl, hd⟩, hk⟩
      have hag : Agree n0 w.heap.size T S' W2 (W2.putObj (w.heap.size + 1) (.loop { rc .ready with state := .exhausted })) := Agree.own (grownBy_putObj' _ _ _) (fun r e => by cases e; exact ⟨by omega, by omega, .inr ⟨_, hl, rfl⟩⟩)
      refine ⟨none, _, run_endLoop (P := P) hl (by simp [rc]), hdone _ S' _ (Nat.le_refl _) (hF _ _ _ _ hi hag) ?_ ((World.putObj_heap_other (by omega)).trans hd)⟩
      refine ⟨hk.os, hk.tape, hk.output, ?_, fun k o hk1 ho => ?_, fun k hk1 => ?_⟩
      · have := hk.size; simp at this ⊢; omega
      · have hkw := blk_lt hk1
        rw [World.putObj_heap_other (by omega)]
        exact hk.same k o ((hW1.block k hkw).trans hk1) ho
      · have := hk.sub k hk1
        refine ⟨by simpa using this.1, ?_⟩
        rcases this.2 with h | h
        · exact .inl h
        · exact .inr (by omega)
end Go.Proofs.YtogdbjafibejdaaGreat

/- The program's tellFrom and from, inside the fence. No condition. -/
namespace Go.Proofs.YtogdbjafibejdaaGreat
open Go.RowKit Go.Shelf
set_option maxRecDepth 100000
set_option linter.unusedVariables false
attribute [local go_sem] Oper.semAt_some

theorem TellBox.kz {A l B n0 : Nat} {T : TypeId → Prop} {S S' : Nat → Prop} {W W' : World} (h : TellBox A l B W) (k : Kz n0 T S S' W W') (hB : ∀ j, B ≤ j → j < B + 3 → ¬ S j) (hT : ¬ T 64 ∧ ¬ T 80 ∧ ¬ T 4) : TellBox A l B W' :=
  ⟨k.same _ _ h.1 (.inr (.inl ⟨hB _ (by omega) (by omega), fun ⟨_, _, _, e, ht⟩ => by cases e; exact hT.1 ht⟩)), k.same _ _ h.2.1 (.inr (.inl ⟨hB _ (by omega) (by omega), fun ⟨_, _, _, e, ht⟩ => by cases e; exact hT.2.1 ht⟩)), k.same _ _ h.2.2 (.inr (.inl ⟨hB _ (by omega) (by omega), fun ⟨_, _, _, e, ht⟩ => by cases e; exact hT.2.2 ht⟩))⟩

set_option maxHeartbeats 800000 in
/-- What kids hands back tells all kids, in their order. -/
theorem kids_tells2 {w0 w : World} {T : TypeId → Prop} {v : Value} {ns : List PNode} {A Ba Bt k : Nat} (hn : NodesAt w0 v ns) (hA : A < w0.heap.size) (cA : w0.cell? ⟨A, 0, none⟩ = some v) (hlen : ns.length ≤ 1048576) (hk : k < ns.length) (hw : Below w0.heap.size w0 w)
    (ca : w.cell? ⟨Ba, 0, none⟩ = some (.pointer (some ⟨A, 0, none⟩))) (ct : w.cell? ⟨Bt, 0, none⟩ = some (.int .i64 (k : Int))) (hBa : Ba < w.heap.size) (hBt : Bt < w.heap.size) :
    SeqTells2 Tryz.prog T 158 #[.pointer (some ⟨Ba, 0, none⟩), .pointer (some ⟨Bt, 0, none⟩)] w0.heap.size (kidsOf ns k) w := by
  intro n l n1 J S W hWw hn1 hn0 hSW hF hY h0
  have hW : Below w0.heap.size w0 W := hw.trans (hWw.mono hw.size)
  have hBa' := (hWw.cell (p := ⟨Ba, 0, none⟩) hBa).trans ca
  have hBt' := (hWw.cell (p := ⟨Bt, 0, none⟩) hBt).trans ct
  have hA' := (hW.cell (p := ⟨A, 0, none⟩) hA).trans cA
  obtain ⟨a, cap, rfl, hc1, hc2, hcs⟩ := hn.slice
  obtain ⟨b, off, av, kv, rfl, hblt, _, _, _, _, _, c5, _, hsl⟩ := hcs k hk
  have c5' := (hW.cell (p := ⟨b, off + k * 6 + 5, none⟩) hblt).trans c5
  obtain ⟨ka, kcap, rfl, hk1, hk2, _, hkc⟩ := hsl
  have hkm : kcap < 9223372036854775808 := Nat.lt_of_le_of_lt hk2 (by decide)
  rw [← kidsOf_at hk] at hkc c5' hk1
  obtain ⟨zs, hzs⟩ : ∃ zs, zs = kidsOf ns k := ⟨_, rfl⟩
  rw [← hzs] at hkc c5' hk1 hY ⊢
  have HKC := (show Hid (Cells .i64 w0 ka zs) from hkc)
  have HW := (show Hid (Below w0.heap.size w0 W) from hW)
  clear hcs hkc c5 hW hn hzs ca ct cA
  refine (callsIn_wide (n := n)).2 ((callsIn_wide (n := 5)).1 ?_)
  refine callsIn_of_wp Tryz.func158 rfl trivial ?_ rfl
  simp only [Tryz.ntmps158, List.size_toArray, List.length_cons, List.length_nil, Nat.reduceAdd, Nat.reduceSub, Array.replicate_succ, Array.replicate_zero, List.push_toArray, List.append_toArray, List.nil_append, List.cons_append]
  gi_wp2
  gi_quiet (fail)
  have hbq : Below W.heap.size W (W.drewN nq) := ⟨rfl, rfl, rfl, Nat.le_refl _, fun _ _ => rfl⟩
  have h0' : J S [] (W.drewN nq) := hF _ _ _ _ h0 (Agree.of_below hbq)
  have hk0 : Kz w0.heap.size T S S W (W.drewN nq) := Kz.of_below hbq hSW
  gi_wp2
  gi_loopw [15] (fun i wr => ∃ (j : Nat) (S' : Nat → Prop), j ≤ zs.length ∧ i = .int .i64 j ∧ J S' (zs.take j) wr ∧ Kz w0.heap.size T S S' W wr) (fun i _ => zs.length - (intOf i).toNat)
  case atStart => exact ⟨0, S, Nat.zero_le _, rfl, by simpa using h0', hk0⟩
  case round =>
    obtain ⟨j, S', hj, rfl, hJs, hks⟩ := hrel
    by_cases hlt : j < zs.length
    · have hnx : Below w0.heap.size w0 wr := HW.out.trans (hks.below hn0)
      obtain ⟨kb, ko, rfl, ck⟩ := HKC.out j hlt
      rw [show zs.getD j 0 = zs[j] by simp [List.getD_eq_getElem?_getD, hlt]] at ck
      have hkb : kb < w0.heap.size := by
        by_cases h : kb < w0.heap.size
        · exact h
        · exfalso; simp [World.cell?, Array.getElem?_eq_none (Nat.le_of_not_lt h)] at ck
      have ck' := (hnx.cell (p := ⟨kb, ko + j, none⟩) hkb).trans ck
      have HP : Hid (zs.take j ++ [zs[j]] = zs.take (j + 1)) := (take_snoc zs hlt).symm
      obtain ⟨fn, tmps, assign, body, hy, hR⟩ := hY 4 S' (zs.take j) zs[j] wr (by rw [HP.out]; exact List.take_prefix _ _) hJs (fun i hi => (hks.sub i hi).1)
      have HKS := (show Hid (Kz w0.heap.size T S S' W wr) from hks)
      clear ck hnx hks
      gi_wp2
      refine hR.mono ?_
      rintro e W3 ⟨rfl, S3, hJ3, hk3⟩
      gi_wp2
      go_roundw
      case rel => exact ⟨j + 1, S3, by omega, by go_num, by rw [← HP.out]; exact hJ3, HKS.out.trans hk3⟩
      case measure => simp [intOf]; omega
    · obtain rfl : j = zs.length := by omega
      rw [List.take_length] at hJs
      gi_wp2
      go_end0
      exact ⟨⟨_, rfl⟩, S', hJs, hks⟩

set_option maxHeartbeats 1000000 in
theorem tellFrom_in2 {w0 : World} {T : TypeId → Prop} (hT : ¬ T 64 ∧ ¬ T 80 ∧ ¬ T 4) {v : Value} {ns : List PNode} {A l n1 : Nat} (hn : NodesAt w0 v ns) (hA : A < w0.heap.size) (cA : w0.cell? ⟨A, 0, none⟩ = some v) (hlen : ns.length ≤ 1048576) (J : (Nat → Prop) → List Int → World → Prop) (hF : FreeS w0.heap.size n1 T J)
    (G : List Int → Prop) (hY : ∀ m S pre x W1, G (pre ++ [x]) → J S pre W1 → (∀ k, S k → k < W1.heap.size) → YieldAt Fence.wide m Tryz.prog l #[.int .i64 x] W1 fun e W' => e = .returned (.bool true) ∧ ∃ S', J S' (pre ++ [x]) W' ∧ Kz w0.heap.size T S S' W1 W') :
    ∀ (f k : Nat), deepOk ns f k → ∀ (n : Nat) (S : Nat → Prop) (pre : List Int) (W : World), (∀ l', l' ≠ [] → l' <+: down ns f k → G (pre ++ l')) → Below w0.heap.size w0 W → n1 ≤ W.heap.size → (∀ k, S k → k < W.heap.size) → J S pre W →
      CallsIn Fence.wide n Tryz.prog 122 #[.pointer (some ⟨A, 0, none⟩), .int .i64 (k : Int), .func (.yield l) #[] #[]] W fun e W' => e = .returned (.bool true) ∧ ∃ S', J S' (pre ++ down ns f k) W' ∧ Kz w0.heap.size T S S' W W' := by
  intro f
  induction f with
  | zero => intro k h; exact h.elim
  | succ f ih =>
    intro k hk n S pre W hG hW hn1 hSW hJW
    have HGG := (show Hid (∀ l', l' ≠ [] → l' <+: down ns (f + 1) k → G (pre ++ l')) from hG)
    clear hG
    have hklt := hk.1
    have IH := (show Hid _ from ih)
    have HN := (show Hid (NodesAt w0 v ns) from hn)
    have HK := (show Hid (∀ x ∈ kidsOf ns k, 0 ≤ x ∧ deepOk ns f x.toNat) from hk.2)
    clear ih hn hk
    refine (callsIn_wide (n := n)).2 ((callsIn_wide (n := 5)).1 ?_)
    have hbox := tellBox_new A l W
    have b3 := (((Below.refl _ W).alloc (Nat.le_refl _) (.cells #[.pointer (some ⟨A, 0, none⟩)] 64)).alloc (by simp) (.cells #[.func (.yield l) #[] #[]] 80)).alloc (by simp; omega) (.cells #[.bool false] 4)
    have hJ3 : J S pre _ := hF _ _ _ _ hJW (Agree.of_below b3)
    have hsz3 : (((W.alloc (.cells #[.pointer (some ⟨A, 0, none⟩)] 64)).alloc (.cells #[.func (.yield l) #[] #[]] 80)).alloc (.cells #[.bool false] 4)).heap.size = W.heap.size + 3 := by simp
    have hNS : ∀ j, W.heap.size ≤ j → j < W.heap.size + 3 → ¬ S j := fun j h1 _ hj => by have := hSW j hj; omega
    obtain ⟨fn, tmps, assign, body, hy, hR⟩ := hY 4 S pre (k : Int) _ (HGG.out [(k : Int)] (by simp) (by rw [down]; exact ⟨_, rfl⟩)) hJ3 (fun j hj => by have := hSW j hj; omega)
    have cY : (((W.alloc (.cells #[.pointer (some ⟨A, 0, none⟩)] 64)).alloc (.cells #[.func (.yield l) #[] #[]] 80)).alloc (.cells #[.bool false] 4)).cell? ⟨W.heap.size + 1, 0, none⟩ = some (.func (.yield l) #[] #[]) := by simp only [World.cell?, hbox.2.1]; rfl
    have HB := (show Hid (TellBox A l W.heap.size _) from hbox)
    have HB3 := (show Hid (Below W.heap.size W _) from b3)
    have HSZ3 := (show Hid _ from hsz3)
    have HNS := (show Hid (∀ j, W.heap.size ≤ j → j < W.heap.size + 3 → ¬ S j) from hNS)
    have HSW := (show Hid (∀ k, S k → k < W.heap.size) from hSW)
    clear hbox b3 hJ3 hsz3 hNS hSW
    refine callsIn_of_wp_marks Tryz.func122 rfl trivial ?_ rfl
    simp only [Tryz.ntmps122, List.size_toArray, List.length_cons, List.length_nil, Nat.reduceAdd, Nat.reduceSub, Array.replicate_succ, Array.replicate_zero, List.push_toArray, List.append_toArray, List.nil_append, List.cons_append]
    gi_wp2
    refine hR.mono ?_
    rintro e W4 ⟨rfl, S4, hJ4, hK4⟩
    have bx4 := TellBox.kz HB.out hK4 HNS.out hT
    have k4 : Kz w0.heap.size T S S4 W W4 := (Kz.of_below HB3.out HSW.out).trans hK4
    have hNS4 : ∀ j, W.heap.size ≤ j → j < W.heap.size + 3 → ¬ S4 j := fun j h1 h2 hj => by
      rcases (hK4.sub j hj).2 with h | h
      · exact HNS.out j h1 h2 h
      · have := HSZ3.out; omega
    have b4 : Below w0.heap.size w0 W4 := hW.trans (k4.below hW.size)
    have c4 : W4.cell? ⟨W.heap.size, 0, none⟩ = some (.pointer (some ⟨A, 0, none⟩)) := by simp only [World.cell?, bx4.1]; rfl
    have HX4 := (show Hid (TellBox A l W.heap.size W4) from bx4)
    have HK4 := (show Hid (Kz w0.heap.size T S S4 W W4) from k4)
    have HNS4 := (show Hid (∀ j, W.heap.size ≤ j → j < W.heap.size + 3 → ¬ S4 j) from hNS4)
    have HB4 := (show Hid (Below w0.heap.size w0 W4) from b4)
    have HJ4 := (show Hid (J S4 (pre ++ [(k : Int)]) W4) from hJ4)
    have hlt4 := blk_lt bx4.2.2
    clear HB HB3 hK4 bx4 k4 b4 hJ4 cY hy hR hNS4 HSZ3
    gi_wp2
    refine ⟨trivial, (kids_in _ _ _ _).mono ?_⟩
    rintro e w' ⟨rfl, rfl⟩
    gi_wp2
    obtain ⟨W5, hW5⟩ : ∃ W5, W5 = (W4.alloc (.cells #[.pointer (some ⟨A, 0, none⟩)] 64)).alloc (.cells #[.int .i64 (k : Int)] 3) := ⟨_, rfl⟩
    have b5 : Below W4.heap.size W4 W5 := by rw [hW5]; exact ((Below.refl _ W4).alloc (Nat.le_refl _) _).alloc (by simp) _
    have sz5 : W5.heap.size = W4.heap.size + 2 := by rw [hW5]; simp
    have gY : W5.heap[W4.heap.size]? = some (.cells #[.pointer (some ⟨A, 0, none⟩)] 64 (0, 0)) := by
      rw [hW5, Below.heap_alloc _ _ _ (by simp)]
      exact World.alloc_heap_new _ _
    have gZ : W5.heap[W4.heap.size + 1]? = some (.cells #[.int .i64 (k : Int)] 3 (0, 0)) := by
      rw [hW5]
      have := World.alloc_heap_new (W4.alloc (.cells #[.pointer (some ⟨A, 0, none⟩)] 64)) (.cells #[.int .i64 (k : Int)] 3)
      rwa [World.size_alloc] at this
    have cY : W5.cell? ⟨W4.heap.size, 0, none⟩ = some (.pointer (some ⟨A, 0, none⟩)) := by simp only [World.cell?, gY]; rfl
    have cZ : W5.cell? ⟨W4.heap.size + 1, 0, none⟩ = some (.int .i64 (k : Int)) := by simp only [World.cell?, gZ]; rfl
    have hJ5 : J S4 (pre ++ [(k : Int)]) W5 := hF _ _ _ _ HJ4.out (Agree.of_below b5)
    have k5 : Kz w0.heap.size T S S4 W W5 := HK4.out.trans (Kz.of_below b5 (fun j hj => (HK4.out.sub j hj).1))
    have bx5 : TellBox A l W.heap.size W5 := ⟨(b5.block _ (by omega)).trans HX4.out.1, (b5.block _ (by omega)).trans HX4.out.2.1, (b5.block _ (by omega)).trans HX4.out.2.2⟩
    have hbel : Below w0.heap.size w0 W5 := HB4.out.trans (b5.mono HB4.out.size)
    have hsz : W.heap.size ≤ W5.heap.size := k5.size
    have hle0 : w0.heap.size ≤ W.heap.size := hW.size
    rw [← hW5]
    refine wpIn_tells2 (T := T) (w0 := W5) (n0 := w0.heap.size) (all := kidsOf ns k) (gf := 158) (lb := #[.pointer (some ⟨W4.heap.size, 0, none⟩), .pointer (some ⟨W4.heap.size + 1, 0, none⟩)]) rfl (enters_of Tryz.func158 (by kernel_rfl) rfl)
      (kids_tells2 HN.out hA cA hlen hklt hbel cY cZ (by omega) (by omega)) (Below.refl _ _) hbel.size
      (fun S' pre' Wq => J S' (pre ++ [(k : Int)] ++ pre'.flatMap (fun x => down ns f x.toNat)) Wq ∧ Kz w0.heap.size T S S' W Wq ∧ TellBox A l W.heap.size Wq ∧ ∀ j, W.heap.size ≤ j → j < W.heap.size + 3 → ¬ S' j)
      ?hI S4 (fun j hj => by have := (HK4.out.sub j hj).1; omega) ⟨by simpa using hJ5, k5, bx5, HNS4.out⟩
      (fun x => { tmps := #[.pointer (some ⟨A, 0, none⟩), .int .i64 (k : Int), .func (.yield l) #[] #[], .pointer (some ⟨W.heap.size, 0, none⟩), undef, .pointer (some ⟨W.heap.size + 1, 0, none⟩), .pointer (some ⟨W.heap.size + 1 + 1, 0, none⟩), .int .i64 x, .func (.yield l) #[] #[], .int .i64 (k : Int), .bool true, .bool false, .pointer (some ⟨A, 0, none⟩), .int .i64 (k : Int), .func (.func 158) #[] #[.pointer (some ⟨W4.heap.size, 0, none⟩), .pointer (some ⟨W4.heap.size + 1, 0, none⟩)], .int .i64 x, undef, undef, undef, undef, undef], defers := [] }) ?assign ?body ?done
    case hI =>
      rintro S' pre' Wa Wb ⟨h1, h2, h3, h4⟩ hag
      refine ⟨hF _ _ _ _ h1 ⟨hag.os, hag.tape, hag.output, hag.size, fun j o hj ho => hag.same j o hj (by
        rcases ho with ho | ho | ho | ho
        · exact .inl ho
        · exact .inr (.inl ho)
        · exact .inr (.inr (.inl ho))
        · exact .inr (.inr (.inr (by omega))))⟩, ⟨hag.os.trans h2.os, hag.tape.trans h2.tape, hag.output.trans h2.output, Nat.le_trans h2.size hag.size, fun j o hj ho => hag.same j o (h2.same j o hj ho) (.inr (.inr (.inr (by have := blk_lt hj; omega)))), fun j hj => ⟨Nat.lt_of_lt_of_le (h2.sub j hj).1 hag.size, (h2.sub j hj).2⟩⟩, ⟨hag.same _ _ h3.1 (.inr (.inr (.inr (by omega)))), hag.same _ _ h3.2.1 (.inr (.inr (.inr (by omega)))), hag.same _ _ h3.2.2 (.inr (.inr (.inr (by omega))))⟩, h4⟩
    case assign =>
      intro l' m' x Wa K' hK'
      gi_wp2
      exact hK'
    case body =>
      rintro l' m' Sb pre' x Wb hpx ⟨hJb, hKb, hXb, hNb⟩ hSb
      have cb0 : Wb.cell? ⟨W.heap.size, 0, none⟩ = some (.pointer (some ⟨A, 0, none⟩)) := by simp only [World.cell?, hXb.1]; rfl
      have cb1 : Wb.cell? ⟨W.heap.size + 1, 0, none⟩ = some (.func (.yield l) #[] #[]) := by simp only [World.cell?, hXb.2.1]; rfl
      have hx : x ∈ kidsOf ns k := hpx.subset (by simp)
      obtain ⟨hx0, hdx⟩ := HK.out x hx
      obtain ⟨j, rfl⟩ : ∃ j : Nat, x = j := ⟨x.toNat, by omega⟩
      rw [show ((j : Int)).toNat = j by simp] at hdx
      have hGj : ∀ l', l' ≠ [] → l' <+: down ns f j → G (pre ++ [(k : Int)] ++ pre'.flatMap (fun x => down ns f x.toNat) ++ l') := fun l' hl1 hl2 => by
        have := HGG.out ((k : Int) :: (pre'.flatMap (fun x => down ns f x.toNat) ++ l')) (by simp) (by
          obtain ⟨r1, hr1⟩ := hpx
          obtain ⟨r2, hr2⟩ := hl2
          refine ⟨r2 ++ r1.flatMap (fun x => down ns f x.toNat), ?_⟩
          rw [down, ← hr1, List.flatMap_append, List.flatMap_append, List.flatMap_singleton, show ((j : Int)).toNat = j by simp, ← hr2]
          simp [List.append_assoc])
        simpa [List.append_assoc] using this
      have CC := (show Hid _ from IH.out j hdx (m' - 1) Sb _ Wb hGj (hW.trans (hKb.below hW.size)) (by have := hKb.size; omega) (fun i hi => (hKb.sub i hi).1) hJb)
      have HKb := (show Hid (Kz w0.heap.size T S Sb W Wb) from hKb)
      have HNb := (show Hid (∀ j, W.heap.size ≤ j → j < W.heap.size + 3 → ¬ Sb j) from hNb)
      have hlb := blk_lt hXb.2.2
      have HXb := (show Hid (TellBox A l W.heap.size Wb) from hXb)
      clear hJb hKb hXb hNb hGj hpx
      gi_wp2
      refine ⟨trivial, (fun h => by cases h), (CallsIn.inRound l' CC.out).mono ?_⟩
      rintro e Wc ⟨rfl, Sc, hJc, hKc⟩
      have hKc' := HKb.out.trans hKc
      have hXc := TellBox.kz HXb.out hKc HNb.out hT
      have hNc : ∀ i, W.heap.size ≤ i → i < W.heap.size + 3 → ¬ Sc i := fun i h1 h2 hi => by
        rcases (hKc.sub i hi).2 with h | h
        · exact HNb.out i h1 h2 h
        · omega
      have hJc' : J Sc (pre ++ [(k : Int)] ++ (pre' ++ [(j : Int)]).flatMap (fun x => down ns f x.toNat)) Wc := by simpa [List.flatMap_append, List.append_assoc] using hJc
      have END := (show Hid (∃ S', Kz w0.heap.size T Sb S' Wb Wc ∧ J S' (pre ++ [(k : Int)] ++ (pre' ++ [(j : Int)]).flatMap (fun x => down ns f x.toNat)) Wc ∧ Kz w0.heap.size T S S' W Wc ∧ TellBox A l W.heap.size Wc ∧ ∀ i, W.heap.size ≤ i → i < W.heap.size + 3 → ¬ S' i) from ⟨Sc, hKc, hJc', hKc', hXc, hNc⟩)
      clear hKc hJc hJc' hKc' hXc hNc
      gi_wp2
      simpa using END.out
    case done =>
      rintro D Sd Wd hD ⟨hJd, hKd, hXd, hNd⟩ hKdd hDd
      have cR : Wd.cell? ⟨W.heap.size + 1 + 1, 0, none⟩ = some (.bool false) := by simp only [World.cell?, hXd.2.2]; rfl
      have fR : Wd.frozen? ⟨W.heap.size + 1 + 1, 0, none⟩ = false := by simp [World.frozen?, hXd.2.2]
      have hds : (Wd.setCell ⟨W.heap.size + 1 + 1, 0, none⟩ (.bool true)).heap[D]? = some (.deferred (some [])) := (KeepsOthers.setCell Wd ⟨W.heap.size + 1 + 1, 0, none⟩ (.bool true)).same D _ hDd rfl
      have gR := setCell_at (k := 0) (u := .bool true) hXd.2.2
      gi_wp2
      refine ⟨by simp, .inl ⟨_, _, rfl, run_takeDeferred hds, ?_⟩⟩
      have hne : W.heap.size + 1 + 1 ≠ D := fun e => by rw [← e, hXd.2.2] at hDd; cases hDd
      have gR' : ((Wd.setCell ⟨W.heap.size + 1 + 1, 0, none⟩ (.bool true)).putObj D (.deferred none)).heap[W.heap.size + 1 + 1]? = _ := (World.putObj_heap_other hne).trans gR
      have hc : ((Wd.setCell ⟨W.heap.size + 1 + 1, 0, none⟩ (.bool true)).putObj D (.deferred none)).cell? ⟨W.heap.size + 1 + 1, 0, none⟩ = some (.bool true) := by simp only [World.cell?, gR']; rfl
      have hag1 : Agree w0.heap.size n1 T Sd Wd (Wd.setCell ⟨W.heap.size + 1 + 1, 0, none⟩ (.bool true)) := Agree.own (grown_setCell _ _ _ _) (fun r e => by cases e; exact ⟨by omega, by omega, .inl ⟨hNd _ (by omega) (by omega), fun o ho ⟨_, _, _, e, ht⟩ => by rw [hXd.2.2] at ho; cases ho; cases e; exact hT.2.2 ht⟩⟩)
      have hag2 : Agree w0.heap.size n1 T Sd (Wd.setCell ⟨W.heap.size + 1 + 1, 0, none⟩ (.bool true)) ((Wd.setCell ⟨W.heap.size + 1 + 1, 0, none⟩ (.bool true)).putObj D (.deferred none)) := Agree.own (grownBy_putObj' _ _ _) (fun r e => by cases e; exact ⟨by omega, by omega, .inr ⟨_, hds, rfl⟩⟩)
      have e1 : pre ++ [(k : Int)] ++ List.flatMap (fun x => down ns f x.toNat) (kidsOf ns k) = pre ++ down ns (f + 1) k := by simp [down]
      rw [e1] at hJd
      refine ⟨.bool true, ?_, rfl, Sd, hF _ _ _ _ (hF _ _ _ _ hJd hag1) hag2, ?_⟩
      · simp [results, Tryz.f122, go_sem, hc]
      · exact (hKd.own (B := W.heap.size) (Nat.le_refl _) (grown_setCell Wd (W.heap.size + 1 + 1) 0 (.bool true)) (fun r e => by cases e; omega)).own (B := W.heap.size) (Nat.le_refl _) (grownBy_putObj' _ _ _) (fun r e => by cases e; omega)

set_option maxHeartbeats 400000 in
/-- What 'from' hands back tells the node and all that stand below it. -/
theorem from_tells2 {w0 w : World} {T : TypeId → Prop} (hT : ¬ T 64 ∧ ¬ T 80 ∧ ¬ T 4) {v : Value} {ns : List PNode} {A Ba Bt f k : Nat} (hn : NodesAt w0 v ns) (hA : A < w0.heap.size) (cA : w0.cell? ⟨A, 0, none⟩ = some v) (hlen : ns.length ≤ 1048576) (hk : deepOk ns f k) (hw : Below w0.heap.size w0 w)
    (ca : w.cell? ⟨Ba, 0, none⟩ = some (.pointer (some ⟨A, 0, none⟩))) (ct : w.cell? ⟨Bt, 0, none⟩ = some (.int .i64 (k : Int))) (hBa : Ba < w.heap.size) (hBt : Bt < w.heap.size) :
    SeqTells2 Tryz.prog T 121 #[.pointer (some ⟨Ba, 0, none⟩), .pointer (some ⟨Bt, 0, none⟩)] w0.heap.size (down ns f k) w := by
  intro n l n1 J S W hW hn1 hn0 hSW hF hY h0
  have hb : Below w0.heap.size w0 W := hw.trans (hW.mono hw.size)
  have CC := (show Hid _ from tellFrom_in2 hT hn hA cA hlen J hF (fun l => l <+: down ns f k) hY f k hk 4 S [] W (fun l' _ h => by simpa using h) hb hn1 hSW h0)
  have ca' := (hW.cell (p := ⟨Ba, 0, none⟩) hBa).trans ca
  have ct' := (hW.cell (p := ⟨Bt, 0, none⟩) hBt).trans ct
  refine (callsIn_wide (n := n)).2 ((callsIn_wide (n := 5)).1 ?_)
  refine callsIn_of_wp Tryz.func121 rfl trivial ?_ rfl
  simp only [Tryz.ntmps121, List.size_toArray, List.length_cons, List.length_nil, Nat.reduceAdd, Nat.reduceSub, Array.replicate_succ, Array.replicate_zero, List.push_toArray, List.append_toArray, List.nil_append, List.cons_append]
  gi_wp2
  refine ⟨trivial, CallsIn.mono CC.out ?_⟩
  rintro e W' ⟨rfl, S', hJ', hK'⟩
  gi_wp2
  go_end0
  exact ⟨⟨_, rfl⟩, S', by simpa using hJ', hK'⟩
end Go.Proofs.YtogdbjafibejdaaGreat
