/- The program's TreeWrite of a right tree (written by mk/iwrite3.py). No condition. -/
import Derived.Test.YtogdbjafibejdaaGreatU39
import Derived.Test.YtogdbjafibejdaaGreatU40
import Derived.Test.YtogdbjafibejdaaGreatU38
import Derived.Test.YtogdbjafibejdaaGreatU37
import Derived.Test.YtogdbjafibejdaaGreatU27
namespace Go.Proofs.YtogdbjafibejdaaGreat
open Go.RowKit
set_option maxRecDepth 100000
set_option linter.unusedVariables false

set_option maxHeartbeats 800000 in
set_option maxRecDepth 100000 in
theorem istepWrite {B a g cap A C D : Nat} {w : World} {qs : List (PNode × (Value × Value))} {ms : List PNode} (ha : w.heap[a]? = some (.cells #[.slice (some ⟨g, 0, none⟩) qs.length cap] 77 (0, 0))) (hO : OwnQ B w (.slice (some ⟨g, 0, none⟩) qs.length cap) qs) (hA : Apart qs) (hB : B ≤ w.heap.size) (h0 : 0 < qs.length) (hlen : qs.length ≤ 500)
    (hkl : ∀ q ∈ qs, q.1.kids.length ≤ 1000000) (hkin : ∀ q ∈ qs, ∀ x ∈ q.1.kids, 0 ≤ x ∧ x < qs.length) (htx : ∀ q ∈ qs, q.1.text.size ≤ 1048576) (p : Int) (s : ByteArray) (hs : s.size ≤ 1048576)
    (hms : (∃ k, LastT (qs.map (fun q => q.1)) p.toNat k ∧ ms = moreN (qs.map (fun q => q.1)) k s) ∨ ((¬ ∃ k, LastT (qs.map (fun q => q.1)) p.toNat k) ∧ ms = newN (qs.map (fun q => q.1)) p.toNat s))
    (gA : w.heap[A]? = some (.cells #[.pointer (some ⟨a, 0, none⟩)] 64 (0, 0))) (gC : w.heap[C]? = some (.cells #[.int .i64 p] 3 (0, 0))) (gD : w.heap[D]? = some (.cells #[.string s] 9 (0, 0))) :
    Calls Tryz.prog 69 #[.pointer (some ⟨A, 0, none⟩), .pointer (some ⟨C, 0, none⟩), .pointer (some ⟨D, 0, none⟩)] w fun e w' => ∃ r : Bool, e = .returned (.bool r) ∧ (r = true ↔ (0 ≤ p ∧ p < qs.length) ∧ empB s = false ∧ utfOk (bs s) = true) ∧ (∃ g' n' c', w'.heap[a]? = some (.cells #[.slice (some ⟨g', 0, none⟩) n' c'] 77 (0, 0)) ∧ (r = true → ∃ qs', qs'.map (fun q => q.1) = ms ∧ OwnQ B w' (.slice (some ⟨g', 0, none⟩) n' c') qs')) ∧ OpFr B a w w' := by
  have CC := (show Hid _ from iwrite_any ha hO hA hB h0 hlen hkl hkin htx p s hs hms)
  obtain ⟨cA, _⟩ := one_cell gA
  obtain ⟨cC, _⟩ := one_cell gC
  obtain ⟨cD, _⟩ := one_cell gD
  clear ha hO hA hkl hkin htx hms gA gC gD
  go_enter Tryz.func69, Tryz.ntmps69
  go_wp2_with fail
  go_at_call 70
  refine Calls.mono CC.out ?_
  rintro e w' ⟨r, rfl, hh⟩
  have HH := (show Hid _ from hh)
  clear CC hh
  go_wp2
  go_ret
  exact ⟨r, rfl, HH.out⟩

theorem TreeWrite_res {tmps : Array Value} {w : World} {g : Nat} {a : Option Addr} {n c : Nat} {i : Bool} (h4 : tmps.getD 6 undef = .pointer (some ⟨g, 0, none⟩)) (h5 : tmps.getD 7 undef = .bool i) (hb : w.heap[g]? = some (.cells #[.slice a n c] 26 (0, 0))) :
    (results Tryz.f19 tmps).run Tryz.prog w = .ok (.tuple #[.agg #[.slice a n c], .bool i]) w := by
  rw [results_cell_tmp (p := 6) (u := 7) (ty := 26) rfl, h4, h5]
  simp [asAddr, run_loadVar_row w g 26 26 #[.slice a n c] (0, 0) _ hb Tryz.underlying26 rfl rfl, Result.andThen]

set_option maxHeartbeats 2000000 in
set_option maxRecDepth 100000 in
theorem itreeWrite_any {w : World} {v : Value} {ns ms : List PNode} (hn : NodesAt w v ns) (hfit : ∀ n ∈ ns, NodeFit n) (hlen : ns.length ≤ 1048576) (p : Int) (s : ByteArray) (hs : s.size ≤ 1048576) (ok : TreeOkP ns)
    (hms : (∃ k, LastT ns p.toNat k ∧ ms = moreN ns k s) ∨ ((¬ ∃ k, LastT ns p.toNat k) ∧ ms = newN ns p.toNat s)) (hfm : ∀ n ∈ ms, NodeFit n) (hml : ms.length ≤ 1048576) :
    Calls Tryz.prog 19 #[.agg #[v], .int .i64 p, .string s] w fun e w' => ∃ (va : Option Addr) (n vc : Nat) (r : Bool), e = .returned (.tuple #[.agg #[.slice va n vc], .bool r]) ∧ (r = true ↔ ((0 ≤ p ∧ p < ns.length) ∧ empB s = false ∧ utfOk (bs s) = true) ∧ TreeOkP ms) ∧ (r = true → NodesAt w' (.slice va n vc) ms) ∧ (r = false → n = ns.length) ∧ Below w.heap.size w w' := by
  have hmf : ∀ (fn : Fn) (first cap : Array Value) (w : World), (Instr.makeFunc fn first cap).run Tryz.prog w = .ok (.func fn first cap) w := fun _ _ _ _ => rfl
  have HN := (show Hid (NodesAt w v ns) from hn)
  have HFIT := (show Hid (∀ n ∈ ns, NodeFit n) from hfit)
  have HOK := (show Hid (TreeOkP ns) from ok)
  have h1 := ok.one
  have h5 := ok.most
  obtain ⟨a, cap, rfl, hc1, hc2, _⟩ := hn.slice
  have HMS := (show Hid _ from hms)
  have HFM := (show Hid (∀ n ∈ ms, NodeFit n) from hfm)
  clear hn hfit ok hms hfm
  obtain ⟨w1, hw1⟩ : ∃ x, x = (((w.alloc (.cells #[.slice a ns.length cap] 26)).alloc (.cells #[.int .i64 p] 3)).alloc (.cells #[.string s] 9)).alloc (.cells #[.slice none 0 0] 26) := ⟨_, rfl⟩
  have b1 : Below w.heap.size w w1 := by rw [hw1]; exact ((((Below.refl _ w).alloc (Nat.le_refl _) _).alloc (by simp only [World.size_alloc]; omega) _).alloc (by simp only [World.size_alloc]; omega) _).alloc (by simp only [World.size_alloc]; omega) _
  have hs1 : w1.heap.size = w.heap.size + 1 + 1 + 1 + 1 := by rw [hw1]; simp only [World.size_alloc]
  have g0 : w1.heap[w.heap.size]? = some (.cells #[.slice a ns.length cap] 26 (0, 0)) := by
    rw [hw1, Below.heap_alloc _ _ _ (by simp only [World.size_alloc]; omega), Below.heap_alloc _ _ _ (by simp only [World.size_alloc]; omega), Below.heap_alloc _ _ _ (by simp only [World.size_alloc]; omega)]
    have := World.alloc_heap_new (w) (.cells #[.slice a ns.length cap] 26)
    exact this
  have g1 : w1.heap[w.heap.size + 1]? = some (.cells #[.int .i64 p] 3 (0, 0)) := by
    rw [hw1, Below.heap_alloc _ _ _ (by simp only [World.size_alloc]; omega), Below.heap_alloc _ _ _ (by simp only [World.size_alloc]; omega)]
    have := World.alloc_heap_new (w.alloc (.cells #[.slice a ns.length cap] 26)) (.cells #[.int .i64 p] 3)
    rwa [World.size_alloc] at this
  have g2 : w1.heap[w.heap.size + 1 + 1]? = some (.cells #[.string s] 9 (0, 0)) := by
    rw [hw1, Below.heap_alloc _ _ _ (by simp only [World.size_alloc]; omega)]
    have := World.alloc_heap_new ((w.alloc (.cells #[.slice a ns.length cap] 26)).alloc (.cells #[.int .i64 p] 3)) (.cells #[.string s] 9)
    rwa [World.size_alloc, World.size_alloc] at this
  have g3 : w1.heap[w.heap.size + 1 + 1 + 1]? = some (.cells #[.slice none 0 0] 26 (0, 0)) := by
    rw [hw1]
    have := World.alloc_heap_new (((w.alloc (.cells #[.slice a ns.length cap] 26)).alloc (.cells #[.int .i64 p] 3)).alloc (.cells #[.string s] 9)) (.cells #[.slice none 0 0] 26)
    rwa [World.size_alloc, World.size_alloc, World.size_alloc] at this
  have HG := (show Hid (w1.heap[w.heap.size]? = some (.cells #[.slice a ns.length cap] 26 (0, 0)) ∧ w1.heap[w.heap.size + 1]? = some (.cells #[.int .i64 p] 3 (0, 0)) ∧ w1.heap[w.heap.size + 1 + 1]? = some (.cells #[.string s] 9 (0, 0)) ∧ w1.heap[w.heap.size + 1 + 1 + 1]? = some (.cells #[.slice none 0 0] 26 (0, 0))) from ⟨g0, g1, g2, g3⟩)
  have HS1 := (show Hid _ from hs1)
  have B1 := (show Hid (Below w.heap.size w w1) from b1)
  clear g0 g1 g2 g3 hs1 b1
  go_enter Tryz.func19, Tryz.ntmps19
  go_wp2_with fail
  go_at_call 47
  rw [← hw1]
  refine Calls.mono (iarenaA_any (HN.out.below B1.out) HFIT.out hlen) ?_
  rintro e w2 ⟨g, v2, rfl, ha2, hq2, _, hg, b2⟩
  clear hw1
  obtain ⟨qs, hq1, o2, a2⟩ := hq2 HOK.out
  have hql : qs.length = ns.length := by have := congrArg List.length hq1; simpa using this
  obtain ⟨gv, cv, rfl, hgv, hgvl⟩ := o2.form (by omega)
  obtain ⟨w4, hw4⟩ : ∃ x, x = w2.alloc (.cells #[.pointer (some ⟨g, 0, none⟩)] 64) := ⟨_, rfl⟩
  have b24 : Below w2.heap.size w2 w4 := by rw [hw4]; exact (Below.refl _ w2).alloc (Nat.le_refl _) _
  have hs4 : w4.heap.size = w2.heap.size + 1 := by rw [hw4, World.size_alloc]
  have gA : w4.heap[w2.heap.size]? = some (.cells #[.pointer (some ⟨g, 0, none⟩)] 64 (0, 0)) := by rw [hw4]; exact World.alloc_heap_new _ _
  have hgl := lt_of_block ha2
  have hs1 := HS1.out
  have b12 := b2.size
  have b14 : Below w1.heap.size w1 w4 := b2.trans (b24.mono b2.size)
  have bw4 : Below w.heap.size w w4 := B1.out.trans (b14.mono B1.out.size)
  have ha4 := (b24.block g hgl).trans ha2
  have o4 := o2.below b24
  have hkl : ∀ q ∈ qs, q.1.kids.length ≤ 1000000 := fun q hq => by have := kids_few HOK.out q.1 (by rw [← hq1]; exact List.mem_map.mpr ⟨q, hq, rfl⟩); omega
  have hkin : ∀ q ∈ qs, ∀ x ∈ q.1.kids, 0 ≤ x ∧ x < qs.length := fun q hq x hx => by
    obtain ⟨i, hi, rfl⟩ := List.getElem_of_mem hq
    have hi' : i < ns.length := by omega
    have e : kidsOf ns i = qs[i].1.kids := by
      have h' : i < (qs.map (fun q => q.1)).length := by simpa using hi
      rw [← hq1, kidsOf_at h']; simp
    have := fit_kid HOK.out.fit (p := i) (x := x) (by rw [e]; exact hx)
    rw [hql]; exact ⟨this.2.1, this.2.2.1⟩
  have htx : ∀ q ∈ qs, q.1.text.size ≤ 1048576 := fun q hq => (HFIT.out q.1 (by rw [← hq1]; exact List.mem_map.mpr ⟨q, hq, rfl⟩)).tx
  have hgs := HG.out
  have CC := (show Hid _ from ichangeWrite (B := w1.heap.size) (a := g) (g := gv) (cap := cv) (w := w4) (qs := qs) (ms := ms) (C := (0 ≤ p ∧ p < ns.length) ∧ empB s = false ∧ utfOk (bs s) = true) (x0 := w2.heap.size) (x1 := w.heap.size + 1) (x2 := w.heap.size + 1 + 1) ha4 o4 b14.size (by omega) (by omega) (by rw [hq1]; exact HFIT.out) HFM.out hml
    (fun W b => by
      have h := istepWrite (B := w1.heap.size) ((b.block g (lt_of_block ha4)).trans ha4) (o4.below b) a2 (Nat.le_trans b14.size b.size) (by omega) (by omega) hkl hkin htx p s hs (by rw [hq1]; exact HMS.out) ((b.block _ (lt_of_block gA)).trans gA) ((b.block _ (lt_of_block ((b14.block _ (by omega)).trans hgs.2.1))).trans ((b14.block _ (by omega)).trans hgs.2.1)) ((b.block _ (lt_of_block ((b14.block _ (by omega)).trans hgs.2.2.1))).trans ((b14.block _ (by omega)).trans hgs.2.2.1))
      rw [hql] at h
      exact h))
  have BW4 := (show Hid (Below w.heap.size w w4) from bw4)
  have GA := (show Hid _ from gA)
  have GR4 := (show Hid _ from (b14.block (w.heap.size + 1 + 1 + 1) (by omega)).trans hgs.2.2.2)
  obtain ⟨cA4, _⟩ := one_cell gA
  have HSS := (show Hid (w1.heap.size = w.heap.size + 1 + 1 + 1 + 1 ∧ w1.heap.size ≤ w2.heap.size ∧ w4.heap.size = w2.heap.size + 1 ∧ g < w2.heap.size ∧ w1.heap.size ≤ g) from ⟨hs1, b12, hs4, hgl, hg⟩)
  have HQL := (show Hid (qs.length = ns.length) from hql)
  clear gA b24 b14 bw4 hq1 hq2 o2 o4 ha2 ha4 b2 HG HS1 B1 hs4 hs1 b12 hgl hg hkin htx hkl hgs a2
  go_wp2_with fail
  go_at_call 48
  rw [← hw4]
  refine Calls.mono CC.out ?_
  rintro e w5 ⟨r, rfl, hr, ⟨g5, n5, c5, ha5, ho5, hn5⟩, fr5⟩
  clear CC hw4
  have hss := HSS.out
  have gA5 := fr5.box GA.out (by decide) (by decide) (by omega)
  have gR5 := fr5.box GR4.out (by decide) (by decide) (by omega)
  have b45 : Below w.heap.size w4 w5 := fr5.below (by omega) (by omega) (by omega)
  have b5 : Below w.heap.size w w5 := BW4.out.trans b45
  obtain ⟨cA5, _⟩ := one_cell gA5
  rw [HQL.out] at hn5
  have HN5 := (show Hid (r = false → n5 = ns.length) from hn5)
  clear hn5
  have HR := (show Hid _ from hr)
  have HO5 := (show Hid (r = true → OwnN w1.heap.size w5 (.slice (some ⟨g5, 0, none⟩) n5 c5) ms) from ho5)
  have GR5 := (show Hid _ from gR5)
  have B5 := (show Hid (Below w.heap.size w w5) from b5)
  have HA5 := (show Hid _ from ha5)
  have hRl := lt_of_block gR5
  have hAl := lt_of_block gA5
  clear hr ho5 gR5 b5 b45 ha5 gA5 fr5 cA4 GA GR4 BW4 hss
  go_wp2_with fail
  go_at_call 51
  refine Calls.mono (itree_any HA5.out) ?_
  rintro e w6 ⟨rfl, b6⟩
  have gR6 := (b6.block _ hRl).trans GR5.out
  obtain ⟨cR6, zR6⟩ := one_cell gR6
  have GR6 := (show Hid _ from gR6)
  have B6 := (show Hid (Below w.heap.size w w6) from B5.out.trans (b6.mono B5.out.size))
  have HO6 := (show Hid (r = true → OwnN w1.heap.size w6 (.slice (some ⟨g5, 0, none⟩) n5 c5) ms) from fun h => (HO5.out h).below b6)
  clear gR6 b6
  go_wp2
  refine bodyPost_ret (TreeWrite_res rfl rfl (setCell_at GR6.out)) rfl ?_
  refine ⟨_, _, _, _, rfl, HR.out, (fun h => ?_), HN5.out, B6.out.setCell (p := ⟨w.heap.size + 1 + 1 + 1, 0, none⟩) (by simp; omega) _⟩
  exact ((HO6.out h).kept (grown_setCell w6 (w.heap.size + 1 + 1 + 1) 0 (.slice (some ⟨g5, 0, none⟩) n5 c5)) (fun r e => by cases e; exact ⟨_, _, _, GR6.out, by decide, by decide, by decide⟩)).nodes
end Go.Proofs.YtogdbjafibejdaaGreat

/- The program's TreeHang of a tree that is not right. No condition. -/
namespace Go.Proofs.YtogdbjafibejdaaGreat
open Go.RowKit
set_option maxRecDepth 100000
set_option linter.unusedVariables false

set_option maxHeartbeats 1000000 in
theorem itree_nil {w : World} {a : Nat} (ha : w.heap[a]? = some (.cells #[.slice none 0 0] 77 (0, 0))) :
    Calls Tryz.prog 51 #[.pointer (some ⟨a, 0, none⟩)] w fun e w' => e = .returned (.agg #[.slice none 0 0]) ∧ Below w.heap.size w w' := by
  have cA : w.cell? ⟨a, 0, none⟩ = some (.slice none 0 0) := by simp only [World.cell?, ha]; rfl
  have hlt := lt_of_block ha
  clear ha
  go_enter Tryz.func51, Tryz.ntmps51
  go_wp2
  have hz := heap_alloc_new w (.cells #[.slice none 0 0] 26)
  refine bodyPost_ret (results_cell_row rfl _ _ w.heap.size 26 _ (0, 0) _ rfl hz Tryz.underlying26 rfl rfl) rfl ?_
  exact ⟨rfl, (Below.refl _ _).alloc (Nat.le_refl _) _⟩

set_option maxHeartbeats 1000000 in
set_option maxRecDepth 100000 in
theorem ichange_nil {w : World} {a : Nat} (ha : w.heap[a]? = some (.cells #[.slice none 0 0] 77 (0, 0))) (f : Value) :
    Calls Tryz.prog 48 #[.pointer (some ⟨a, 0, none⟩), f] w fun e w' => e = .returned (.bool false) ∧ Below w.heap.size w w' := by
  have hal := lt_of_block ha
  obtain ⟨w1, hw1⟩ : ∃ x, x = (w.alloc (.cells #[.pointer (some ⟨a, 0, none⟩)] 64)).alloc (.cells #[.bool false] 4) := ⟨_, rfl⟩
  have b1 : Below w.heap.size w w1 := by rw [hw1]; exact ((Below.refl _ w).alloc (Nat.le_refl _) _).alloc (by simp) _
  have gP : w1.heap[w.heap.size]? = some (.cells #[.pointer (some ⟨a, 0, none⟩)] 64 (0, 0)) := by rw [hw1, Below.heap_alloc _ _ _ (by simp)]; exact World.alloc_heap_new _ _
  have gD : w1.heap[w.heap.size + 1]? = some (.cells #[.bool false] 4 (0, 0)) := by
    rw [hw1]
    have := World.alloc_heap_new (w.alloc (.cells #[.pointer (some ⟨a, 0, none⟩)] 64)) (.cells #[.bool false] 4)
    rwa [World.size_alloc] at this
  obtain ⟨ca, _⟩ := one_cell ((b1.block a hal).trans ha)
  obtain ⟨cP, _⟩ := one_cell gP
  obtain ⟨cD, zD⟩ := one_cell gD
  have GD := (show Hid _ from gD)
  have B1 := (show Hid (Below w.heap.size w w1) from b1)
  clear gP gD b1 ha
  go_enter Tryz.func48, Tryz.ntmps48
  go_upto_region 1 with fail
  rw [← hw1]
  clear hw1
  go_wp2
  have gs := setCell_at (k := 0) (u := .bool false) GD.out
  have c8 := (one_cell gs).1
  have B2 := (show Hid (Below w.heap.size w (w1.setCell ⟨w.heap.size + 1, 0, none⟩ (.bool false))) from B1.out.setCell (p := ⟨w.heap.size + 1, 0, none⟩) (by simp) _)
  refine bodyPost_ret (show _ = Result.ok (Value.bool false) (w1.setCell ⟨w.heap.size + 1, 0, none⟩ (.bool false)) by simp [results, Tryz.results48, go_sem, c8]) rfl ?_
  exact ⟨rfl, B2.out⟩

set_option maxHeartbeats 2000000 in
set_option maxRecDepth 100000 in
theorem itreeHang_no {w : World} {v : Value} {ns : List PNode} (hn : NodesAt w v ns) (hfit : ∀ n ∈ ns, NodeFit n) (hlen : ns.length ≤ 1048576) (c p : Int) (no : ¬ TreeOkP ns) :
    Calls Tryz.prog 12 #[.agg #[v], .int .i64 c, .int .i64 p] w fun e w' => e = .returned (.tuple #[.agg #[.slice none 0 0], .bool false]) ∧ Below w.heap.size w w' := by
  have hmf : ∀ (fn : Fn) (first cap : Array Value) (w : World), (Instr.makeFunc fn first cap).run Tryz.prog w = .ok (.func fn first cap) w := fun _ _ _ _ => rfl
  have HN := (show Hid (NodesAt w v ns) from hn)
  have HFIT := (show Hid (∀ n ∈ ns, NodeFit n) from hfit)
  have HNO := (show Hid (¬ TreeOkP ns) from no)
  obtain ⟨a, cap, rfl, hc1, hc2, _⟩ := hn.slice
  clear hn hfit no
  obtain ⟨w1, hw1⟩ : ∃ x, x = (((w.alloc (.cells #[.slice a ns.length cap] 26)).alloc (.cells #[.int .i64 c] 3)).alloc (.cells #[.int .i64 p] 3)).alloc (.cells #[.slice none 0 0] 26) := ⟨_, rfl⟩
  have b1 : Below w.heap.size w w1 := by rw [hw1]; exact ((((Below.refl _ w).alloc (Nat.le_refl _) _).alloc (by simp only [World.size_alloc]; omega) _).alloc (by simp only [World.size_alloc]; omega) _).alloc (by simp only [World.size_alloc]; omega) _
  have hs1 : w1.heap.size = w.heap.size + 1 + 1 + 1 + 1 := by rw [hw1]; simp only [World.size_alloc]
  have g0 : w1.heap[w.heap.size]? = some (.cells #[.slice a ns.length cap] 26 (0, 0)) := by
    rw [hw1, Below.heap_alloc _ _ _ (by simp only [World.size_alloc]; omega), Below.heap_alloc _ _ _ (by simp only [World.size_alloc]; omega), Below.heap_alloc _ _ _ (by simp only [World.size_alloc]; omega)]
    have := World.alloc_heap_new (w) (.cells #[.slice a ns.length cap] 26)
    exact this
  have g1 : w1.heap[w.heap.size + 1]? = some (.cells #[.int .i64 c] 3 (0, 0)) := by
    rw [hw1, Below.heap_alloc _ _ _ (by simp only [World.size_alloc]; omega), Below.heap_alloc _ _ _ (by simp only [World.size_alloc]; omega)]
    have := World.alloc_heap_new (w.alloc (.cells #[.slice a ns.length cap] 26)) (.cells #[.int .i64 c] 3)
    rwa [World.size_alloc] at this
  have g2 : w1.heap[w.heap.size + 1 + 1]? = some (.cells #[.int .i64 p] 3 (0, 0)) := by
    rw [hw1, Below.heap_alloc _ _ _ (by simp only [World.size_alloc]; omega)]
    have := World.alloc_heap_new ((w.alloc (.cells #[.slice a ns.length cap] 26)).alloc (.cells #[.int .i64 c] 3)) (.cells #[.int .i64 p] 3)
    rwa [World.size_alloc, World.size_alloc] at this
  have g3 : w1.heap[w.heap.size + 1 + 1 + 1]? = some (.cells #[.slice none 0 0] 26 (0, 0)) := by
    rw [hw1]
    have := World.alloc_heap_new (((w.alloc (.cells #[.slice a ns.length cap] 26)).alloc (.cells #[.int .i64 c] 3)).alloc (.cells #[.int .i64 p] 3)) (.cells #[.slice none 0 0] 26)
    rwa [World.size_alloc, World.size_alloc, World.size_alloc] at this
  have HG := (show Hid (w1.heap[w.heap.size]? = some (.cells #[.slice a ns.length cap] 26 (0, 0)) ∧ w1.heap[w.heap.size + 1]? = some (.cells #[.int .i64 c] 3 (0, 0)) ∧ w1.heap[w.heap.size + 1 + 1]? = some (.cells #[.int .i64 p] 3 (0, 0)) ∧ w1.heap[w.heap.size + 1 + 1 + 1]? = some (.cells #[.slice none 0 0] 26 (0, 0))) from ⟨g0, g1, g2, g3⟩)
  have HS1 := (show Hid _ from hs1)
  have B1 := (show Hid (Below w.heap.size w w1) from b1)
  clear g0 g1 g2 g3 hs1 b1
  go_enter Tryz.func12, Tryz.ntmps12
  go_wp2_with fail
  go_at_call 47
  rw [← hw1]
  refine Calls.mono (iarenaA_any (HN.out.below B1.out) HFIT.out hlen) ?_
  rintro e w2 ⟨g, v2, rfl, ha2, _, hno, hg, b2⟩
  clear hw1
  obtain rfl := hno HNO.out
  obtain ⟨w4, hw4⟩ : ∃ x, x = w2.alloc (.cells #[.pointer (some ⟨g, 0, none⟩)] 64) := ⟨_, rfl⟩
  have b24 : Below w2.heap.size w2 w4 := by rw [hw4]; exact (Below.refl _ w2).alloc (Nat.le_refl _) _
  have gA : w4.heap[w2.heap.size]? = some (.cells #[.pointer (some ⟨g, 0, none⟩)] 64 (0, 0)) := by rw [hw4]; exact World.alloc_heap_new _ _
  have hgl := lt_of_block ha2
  have hs1 := HS1.out
  have b14 : Below w1.heap.size w1 w4 := b2.trans (b24.mono b2.size)
  have bw4 : Below w.heap.size w w4 := B1.out.trans (b14.mono B1.out.size)
  have ha4 := (b24.block g hgl).trans ha2
  have hgs := HG.out
  have CC := (show Hid _ from fun f => ichange_nil ha4 f)
  have BW4 := (show Hid (Below w.heap.size w w4) from bw4)
  have GA := (show Hid _ from gA)
  have HA4 := (show Hid _ from ha4)
  have GR4 := (show Hid _ from (b14.block (w.heap.size + 1 + 1 + 1) (by omega)).trans hgs.2.2.2)
  obtain ⟨cA4, _⟩ := one_cell gA
  clear gA b24 b14 bw4 ha2 ha4 b2 HG HS1 B1 hs1 hgl hg hgs hno
  go_wp2_with fail
  go_at_call 48
  rw [← hw4]
  refine Calls.mono (CC.out _) ?_
  rintro e w5 ⟨rfl, b5⟩
  clear CC hw4
  have gA5 := (b5.block _ (lt_of_block GA.out)).trans GA.out
  have gR5 := (b5.block _ (lt_of_block GR4.out)).trans GR4.out
  have ha5 := (b5.block _ (lt_of_block HA4.out)).trans HA4.out
  have B5 := (show Hid (Below w.heap.size w w5) from BW4.out.trans (b5.mono BW4.out.size))
  obtain ⟨cA5, _⟩ := one_cell gA5
  have GR5 := (show Hid _ from gR5)
  have HA5 := (show Hid _ from ha5)
  have hRl := lt_of_block gR5
  clear gR5 gA5 ha5 b5 cA4 GA GR4 BW4 HA4
  go_wp2_with fail
  go_at_call 51
  refine Calls.mono (itree_nil HA5.out) ?_
  rintro e w6 ⟨rfl, b6⟩
  have gR6 := (b6.block _ hRl).trans GR5.out
  obtain ⟨cR6, zR6⟩ := one_cell gR6
  have GR6 := (show Hid _ from gR6)
  have B6 := (show Hid (Below w.heap.size w w6) from B5.out.trans (b6.mono B5.out.size))
  clear gR6 b6
  go_wp2
  refine bodyPost_ret (TreeHang_res rfl rfl (setCell_at GR6.out)) rfl ?_
  exact ⟨rfl, B6.out.setCell (p := ⟨w.heap.size + 1 + 1 + 1, 0, none⟩) (by simp; omega) _⟩
end Go.Proofs.YtogdbjafibejdaaGreat

/- The program's TreeWrite of a tree that is not right (written by mk/iwrite4.py). No condition. -/
namespace Go.Proofs.YtogdbjafibejdaaGreat
open Go.RowKit
set_option maxRecDepth 100000
set_option linter.unusedVariables false

set_option maxHeartbeats 2000000 in
set_option maxRecDepth 100000 in
theorem itreeWrite_no {w : World} {v : Value} {ns : List PNode} (hn : NodesAt w v ns) (hfit : ∀ n ∈ ns, NodeFit n) (hlen : ns.length ≤ 1048576) (p : Int) (s : ByteArray) (no : ¬ TreeOkP ns) :
    Calls Tryz.prog 19 #[.agg #[v], .int .i64 p, .string s] w fun e w' => e = .returned (.tuple #[.agg #[.slice none 0 0], .bool false]) ∧ Below w.heap.size w w' := by
  have hmf : ∀ (fn : Fn) (first cap : Array Value) (w : World), (Instr.makeFunc fn first cap).run Tryz.prog w = .ok (.func fn first cap) w := fun _ _ _ _ => rfl
  have HN := (show Hid (NodesAt w v ns) from hn)
  have HFIT := (show Hid (∀ n ∈ ns, NodeFit n) from hfit)
  have HNO := (show Hid (¬ TreeOkP ns) from no)
  obtain ⟨a, cap, rfl, hc1, hc2, _⟩ := hn.slice
  clear hn hfit no
  obtain ⟨w1, hw1⟩ : ∃ x, x = (((w.alloc (.cells #[.slice a ns.length cap] 26)).alloc (.cells #[.int .i64 p] 3)).alloc (.cells #[.string s] 9)).alloc (.cells #[.slice none 0 0] 26) := ⟨_, rfl⟩
  have b1 : Below w.heap.size w w1 := by rw [hw1]; exact ((((Below.refl _ w).alloc (Nat.le_refl _) _).alloc (by simp only [World.size_alloc]; omega) _).alloc (by simp only [World.size_alloc]; omega) _).alloc (by simp only [World.size_alloc]; omega) _
  have hs1 : w1.heap.size = w.heap.size + 1 + 1 + 1 + 1 := by rw [hw1]; simp only [World.size_alloc]
  have g0 : w1.heap[w.heap.size]? = some (.cells #[.slice a ns.length cap] 26 (0, 0)) := by
    rw [hw1, Below.heap_alloc _ _ _ (by simp only [World.size_alloc]; omega), Below.heap_alloc _ _ _ (by simp only [World.size_alloc]; omega), Below.heap_alloc _ _ _ (by simp only [World.size_alloc]; omega)]
    have := World.alloc_heap_new (w) (.cells #[.slice a ns.length cap] 26)
    exact this
  have g1 : w1.heap[w.heap.size + 1]? = some (.cells #[.int .i64 p] 3 (0, 0)) := by
    rw [hw1, Below.heap_alloc _ _ _ (by simp only [World.size_alloc]; omega), Below.heap_alloc _ _ _ (by simp only [World.size_alloc]; omega)]
    have := World.alloc_heap_new (w.alloc (.cells #[.slice a ns.length cap] 26)) (.cells #[.int .i64 p] 3)
    rwa [World.size_alloc] at this
  have g2 : w1.heap[w.heap.size + 1 + 1]? = some (.cells #[.string s] 9 (0, 0)) := by
    rw [hw1, Below.heap_alloc _ _ _ (by simp only [World.size_alloc]; omega)]
    have := World.alloc_heap_new ((w.alloc (.cells #[.slice a ns.length cap] 26)).alloc (.cells #[.int .i64 p] 3)) (.cells #[.string s] 9)
    rwa [World.size_alloc, World.size_alloc] at this
  have g3 : w1.heap[w.heap.size + 1 + 1 + 1]? = some (.cells #[.slice none 0 0] 26 (0, 0)) := by
    rw [hw1]
    have := World.alloc_heap_new (((w.alloc (.cells #[.slice a ns.length cap] 26)).alloc (.cells #[.int .i64 p] 3)).alloc (.cells #[.string s] 9)) (.cells #[.slice none 0 0] 26)
    rwa [World.size_alloc, World.size_alloc, World.size_alloc] at this
  have HG := (show Hid (w1.heap[w.heap.size]? = some (.cells #[.slice a ns.length cap] 26 (0, 0)) ∧ w1.heap[w.heap.size + 1]? = some (.cells #[.int .i64 p] 3 (0, 0)) ∧ w1.heap[w.heap.size + 1 + 1]? = some (.cells #[.string s] 9 (0, 0)) ∧ w1.heap[w.heap.size + 1 + 1 + 1]? = some (.cells #[.slice none 0 0] 26 (0, 0))) from ⟨g0, g1, g2, g3⟩)
  have HS1 := (show Hid _ from hs1)
  have B1 := (show Hid (Below w.heap.size w w1) from b1)
  clear g0 g1 g2 g3 hs1 b1
  go_enter Tryz.func19, Tryz.ntmps19
  go_wp2_with fail
  go_at_call 47
  rw [← hw1]
  refine Calls.mono (iarenaA_any (HN.out.below B1.out) HFIT.out hlen) ?_
  rintro e w2 ⟨g, v2, rfl, ha2, _, hno, hg, b2⟩
  clear hw1
  obtain rfl := hno HNO.out
  obtain ⟨w4, hw4⟩ : ∃ x, x = w2.alloc (.cells #[.pointer (some ⟨g, 0, none⟩)] 64) := ⟨_, rfl⟩
  have b24 : Below w2.heap.size w2 w4 := by rw [hw4]; exact (Below.refl _ w2).alloc (Nat.le_refl _) _
  have gA : w4.heap[w2.heap.size]? = some (.cells #[.pointer (some ⟨g, 0, none⟩)] 64 (0, 0)) := by rw [hw4]; exact World.alloc_heap_new _ _
  have hgl := lt_of_block ha2
  have hs1 := HS1.out
  have b14 : Below w1.heap.size w1 w4 := b2.trans (b24.mono b2.size)
  have bw4 : Below w.heap.size w w4 := B1.out.trans (b14.mono B1.out.size)
  have ha4 := (b24.block g hgl).trans ha2
  have hgs := HG.out
  have CC := (show Hid _ from fun f => ichange_nil ha4 f)
  have BW4 := (show Hid (Below w.heap.size w w4) from bw4)
  have GA := (show Hid _ from gA)
  have HA4 := (show Hid _ from ha4)
  have GR4 := (show Hid _ from (b14.block (w.heap.size + 1 + 1 + 1) (by omega)).trans hgs.2.2.2)
  obtain ⟨cA4, _⟩ := one_cell gA
  clear gA b24 b14 bw4 ha2 ha4 b2 HG HS1 B1 hs1 hgl hg hgs hno
  go_wp2_with fail
  go_at_call 48
  rw [← hw4]
  refine Calls.mono (CC.out _) ?_
  rintro e w5 ⟨rfl, b5⟩
  clear CC hw4
  have gA5 := (b5.block _ (lt_of_block GA.out)).trans GA.out
  have gR5 := (b5.block _ (lt_of_block GR4.out)).trans GR4.out
  have ha5 := (b5.block _ (lt_of_block HA4.out)).trans HA4.out
  have B5 := (show Hid (Below w.heap.size w w5) from BW4.out.trans (b5.mono BW4.out.size))
  obtain ⟨cA5, _⟩ := one_cell gA5
  have GR5 := (show Hid _ from gR5)
  have HA5 := (show Hid _ from ha5)
  have hRl := lt_of_block gR5
  clear gR5 gA5 ha5 b5 cA4 GA GR4 BW4 HA4
  go_wp2_with fail
  go_at_call 51
  refine Calls.mono (itree_nil HA5.out) ?_
  rintro e w6 ⟨rfl, b6⟩
  have gR6 := (b6.block _ hRl).trans GR5.out
  obtain ⟨cR6, zR6⟩ := one_cell gR6
  have GR6 := (show Hid _ from gR6)
  have B6 := (show Hid (Below w.heap.size w w6) from B5.out.trans (b6.mono B5.out.size))
  clear gR6 b6
  go_wp2
  refine bodyPost_ret (TreeWrite_res rfl rfl (setCell_at GR6.out)) rfl ?_
  exact ⟨rfl, B6.out.setCell (p := ⟨w.heap.size + 1 + 1 + 1, 0, none⟩) (by simp; omega) _⟩
end Go.Proofs.YtogdbjafibejdaaGreat

/- The text below a node to which a text is written, in plain words. No condition. -/
namespace Go.Proofs.YtogdbjafibejdaaGreat
open Go.RowKit
set_option maxRecDepth 100000
set_option linter.unusedVariables false

theorem down_moreN (ns : List PNode) (k : Nat) (s : ByteArray) : ∀ f i, down (moreN ns k s) f i = down ns f i
  | 0, i => rfl
  | f + 1, i => by
    rw [down, down, kidsOf_moreN]
    congr 1
    exact congrArg (fun g => (kidsOf ns i).flatMap g) (funext fun x => down_moreN ns k s f x.toNat)
theorem txAt_moreN {ns : List PNode} {k : Nat} {s : ByteArray} (hk : k < ns.length) (h4 : ns[k].kind = 4) (j : Nat) : txAt (moreN ns k s) j = if k = j then txAt ns j ++ s.data.toList else txAt ns j := by
  by_cases hj : j < ns.length
  · have hj' : j < (moreN ns k s).length := by rw [moreN_len]; exact hj
    rw [txAt_at hj', txAt_at hj]
    by_cases e : k = j
    · subst e
      have : (moreN ns k s)[k] = setText ns[k] (ns[k].text ++ s) := by simp [moreN]
      rw [this]
      simp [txL, setText, h4]
    · have : (moreN ns k s)[j] = ns[j] := by simp [moreN, e]
      rw [this]; simp [e]
  · have hj' : ¬ j < (moreN ns k s).length := by rw [moreN_len]; exact hj
    have e : k ≠ j := by omega
    simp [txAt, e, List.getElem?_eq_none (Nat.le_of_not_lt hj), List.getElem?_eq_none (Nat.le_of_not_lt hj')]
theorem flat_but {L : List Int} {g g' : Int → List UInt8} (h : ∀ x ∈ L, g' x = g x) : L.flatMap g' = L.flatMap g := by
  induction L with
  | nil => rfl
  | cons a l ih => rw [List.flatMap_cons, List.flatMap_cons, h a (by simp), ih (fun x hx => h x (by simp [hx]))]

/-- More at the end of the last text below p. -/
theorem text_more {ns : List PNode} (h : TreeOkP ns) {p k : Nat} (hp : p < ns.length) (hl : LastT ns p k) (s : ByteArray) : textL (moreN ns k s) ns.length p = textL ns ns.length p ++ s.data.toList := by
  obtain ⟨pre, hkids, hk, h4⟩ := hl
  have h1 := h.one
  obtain ⟨f, hf⟩ : ∃ f, ns.length = f + 1 := ⟨ns.length - 1, by omega⟩
  have hkk : kidsOf ns k = [] := by
    have hg := h.good k hk
    unfold goodB nodeB at hg
    simp only [h4] at hg
    simp at hg
    rw [kidsOf_at hk]
    exact hg.2.2
  have hmem : (k : Int) ∈ kidsOf ns p := by rw [hkids]; simp
  obtain ⟨dp, hdp⟩ := h.linked p hp
  have hdk : dep ns (dp + 1) k := ⟨p, hdp, hmem⟩
  have hlt := dep_lt h.fit hdk
  obtain ⟨f', hf'⟩ : ∃ f', f = f' + 1 := ⟨f - 1, by omega⟩
  have hdn : down ns ns.length p = ((p : Int) :: pre.flatMap fun x => down ns f x.toNat) ++ [(k : Int)] := by
    rw [hf, down, hkids, List.flatMap_append]
    simp [hf', down, hkk]
  have hc := down_once h.fit hdp (tree_deep h hp) (dp + 1) k hdk
  rw [hdn, List.count_append] at hc
  simp only [List.count_singleton_self] at hc
  have hnot : (k : Int) ∉ ((p : Int) :: pre.flatMap fun x => down ns f x.toNat) := fun hm => by
    have := List.count_pos_iff.mpr hm
    omega
  rw [text_down, text_down, down_moreN, hdn, List.flatMap_append, List.flatMap_append]
  rw [flat_but (g := fun x => txAt ns x.toNat) (fun x hx => by
    rw [txAt_moreN hk h4]
    rw [if_neg]
    intro e
    obtain ⟨hx0, _⟩ := down_deeper h.fit ns.length dp p hdp x (by rw [hdn]; exact List.mem_append_left _ hx)
    exact hnot (by rw [show (k : Int) = x by omega]; exact hx))]
  simp only [List.flatMap_cons, List.flatMap_nil, List.append_nil, Int.toNat_natCast]
  rw [txAt_moreN hk h4, if_pos rfl]
  simp only [List.append_assoc]

theorem kidsOf_newN {ns : List PNode} (h : STreeOkP ns) {p : Nat} (hp : p < ns.length) {s : ByteArray} (ht : STreeOkP (ns ++ [txtN s])) (j : Nat) : kidsOf (newN ns p s) j = if p = j then kidsOf ns j ++ [(ns.length : Int)] else kidsOf ns j := by
  have hl : lessL (ns.length : Int) (kidsOf ns j) = kidsOf ns j := lessL_not (fun hm => by have := (fit_kid h.1.fit hm).2.2.1; omega)
  unfold newN
  rw [kidsOf_hangN ht (by simp) (by simp; omega), kidsOf_snoc rfl, hl]
theorem txAt_bare {ns ms : List PNode} {j : Nat} (h : bareAt ms j = bareAt ns j) : txAt ms j = txAt ns j := by
  unfold bareAt at h
  unfold txAt
  cases e1 : ms[j]? with
  | none =>
    cases e2 : ns[j]? with
    | none => rfl
    | some b => rw [e1, e2] at h; simp at h
  | some a =>
    cases e2 : ns[j]? with
    | none => rw [e1, e2] at h; simp at h
    | some b =>
      rw [e1, e2] at h
      simp [bareOf] at h
      simp [txL, h]
theorem txAt_newN (ns : List PNode) (p : Nat) (s : ByteArray) (j : Nat) : txAt (newN ns p s) j = if j = ns.length then s.data.toList else txAt ns j := by
  rw [newN, txAt_bare (bareAt_hangN _ _ _ _)]
  unfold txAt
  by_cases e : j < ns.length
  · rw [List.getElem?_append_left e, if_neg (by omega)]
  · by_cases e2 : j = ns.length
    · subst e2; simp [txL, txtN]
    · rw [if_neg e2, List.getElem?_eq_none (by simp; omega), List.getElem?_eq_none (by omega)]
theorem text_far {ns : List PNode} (h : STreeOkP ns) {p : Nat} (hp : p < ns.length) {s : ByteArray} (ht : STreeOkP (ns ++ [txtN s])) : ∀ g i, i < ns.length → (p : Int) ∉ down ns g i → textL (newN ns p s) g i = textL ns g i
  | 0, i, _, _ => rfl
  | g + 1, i, hi, hn => by
    rw [down] at hn
    have hne : p ≠ i := fun e => hn (by simp [e])
    rw [textL, textL, kidsOf_newN h hp ht, if_neg hne, txAt_newN, if_neg (by omega)]
    congr 1
    refine flat_but (fun x hx => ?_)
    obtain ⟨h1, h2, h3, _⟩ := fit_kid h.1.fit hx
    exact text_far h hp ht g x.toNat (by omega) (fun hm => hn (List.mem_cons_of_mem _ (List.mem_flatMap.mpr ⟨x, hx, hm⟩)))
/-- A new text below p. -/
theorem text_new {ns : List PNode} (h : STreeOkP ns) {p : Nat} (hp : p < ns.length) {s : ByteArray} (hs : empB s = false) (hu : utfOk (bs s) = true) (hl : ns.length < 500) : textL (newN ns p s) (ns.length + 1) p = textL ns ns.length p ++ s.data.toList := by
  have ht0 : TreeOkP (ns ++ [txtN s]) := tree_snoc h.1 rfl rfl (by show (4 : Int) ≠ 1; decide) (by simp [nodeB, txtN, hs, hu]; exact (empB_iff _).mpr rfl) hl
  have ht : STreeOkP (ns ++ [txtN s]) := ⟨ht0, by rw [parOf_snoc rfl]; exact h.2⟩
  have h1 := h.1.one
  obtain ⟨f, hf⟩ : ∃ f, ns.length = f + 1 := ⟨ns.length - 1, by omega⟩
  obtain ⟨dp, hdp⟩ := h.1.linked p hp
  have hdeep := tree_deep h.1 hp
  rw [textL, kidsOf_newN h hp ht, if_pos rfl, txAt_newN, if_neg (by omega), List.flatMap_append]
  have e1 : (kidsOf ns p).flatMap (fun x => textL (newN ns p s) ns.length x.toNat) = (kidsOf ns p).flatMap (fun x => textL ns f x.toNat) := by
    refine flat_but (fun x hx => ?_)
    obtain ⟨g1, g2, g3, g4⟩ := fit_kid h.1.fit hx
    have hdx : dep ns (dp + 1) x.toNat := ⟨p, hdp, by rw [Int.toNat_of_nonneg g2]; exact hx⟩
    rw [text_far h hp ht ns.length x.toNat (by omega) (fun hm => by
      obtain ⟨_, e, he, hde⟩ := down_deeper h.1.fit ns.length (dp + 1) x.toNat hdx _ hm
      have := dep_uniq h.1.fit e dp p (by simpa using hde) hdp
      omega)]
    rw [hf] at hdeep
    exact text_deep f ns.length x.toNat (by omega) (hdeep.2 x hx).2
  have e2 : textL (newN ns p s) ns.length ns.length = s.data.toList := by
    conv => lhs; rw [hf, textL]
    rw [← hf, kidsOf_newN h hp ht, if_neg (by omega), kidsOf_out (by omega), txAt_newN, if_pos rfl]
    simp
  rw [e1]
  simp only [List.flatMap_cons, List.flatMap_nil, List.append_nil, Int.toNat_natCast]
  rw [e2]
  conv => rhs; rw [hf, textL]
  simp only [List.append_assoc]
end Go.Proofs.YtogdbjafibejdaaGreat

/- A range over an iterator, its body with memory of its own that grows: which blocks are the body's is told by a set. No condition. -/
namespace Go.Proofs.YtogdbjafibejdaaGreat
open Go.RowKit
set_option maxRecDepth 100000
set_option linter.unusedVariables false

/-- Cells of one of these types. -/
def InT (T : TypeId → Prop) (o : Obj) : Prop := ∃ cs t fr, o = .cells cs t fr ∧ T t
/-- Of W nothing is turned but cells of blocks in S or of the types T, from n0 on; the set S' has what S has, and new blocks. -/
structure Kz (n0 : Nat) (T : TypeId → Prop) (S S' : Nat → Prop) (W W' : World) : Prop where
  os : W'.os = W.os
  tape : W'.tape = W.tape
  output : W'.output = W.output
  size : W.heap.size ≤ W'.heap.size
  same : ∀ (k : Nat) (o : Obj), W.heap[k]? = some o → (k < n0 ∨ (¬ S k ∧ ¬ InT T o) ∨ o.isCells = false) → W'.heap[k]? = some o
  sub : ∀ k, S' k → k < W'.heap.size ∧ (S k ∨ W.heap.size ≤ k)
theorem Kz.refl {n0 : Nat} {T : TypeId → Prop} {S : Nat → Prop} {W : World} (h : ∀ k, S k → k < W.heap.size) : Kz n0 T S S W W := ⟨rfl, rfl, rfl, Nat.le_refl _, fun _ _ h _ => h, fun k hk => ⟨h k hk, .inl hk⟩⟩
theorem Kz.trans {n0 : Nat} {T : TypeId → Prop} {S S1 S2 : Nat → Prop} {A B C : World} (h : Kz n0 T S S1 A B) (k : Kz n0 T S1 S2 B C) : Kz n0 T S S2 A C :=
  ⟨k.os.trans h.os, k.tape.trans h.tape, k.output.trans h.output, Nat.le_trans h.size k.size, fun i o hi ho => k.same i o (h.same i o hi ho) (by
    rcases ho with ho | ho | ho
    · exact .inl ho
    · refine .inr (.inl ⟨fun hs => ?_, ho.2⟩)
      rcases (h.sub i hs).2 with h1 | h1
      · exact ho.1 h1
      · have := blk_lt hi; omega
    · exact .inr (.inr ho)), fun i hi => ⟨(k.sub i hi).1, by
      rcases (k.sub i hi).2 with h1 | h1
      · exact (h.sub i h1).2
      · exact .inr (by have := h.size; omega)⟩⟩
theorem Kz.below {n0 : Nat} {T : TypeId → Prop} {S S' : Nat → Prop} {A B : World} (h : Kz n0 T S S' A B) (hn : n0 ≤ A.heap.size) : Below n0 A B :=
  ⟨h.os, h.tape, h.output, h.size, fun k hk => by
    have hlt : k < A.heap.size := by omega
    rw [h.same k A.heap[k] (by simp [hlt]) (.inl hk)]
    simp [hlt]⟩
theorem Kz.keeps {n0 : Nat} {T : TypeId → Prop} {S S' : Nat → Prop} {A B : World} (h : Kz n0 T S S' A B) : KeepsOthers A B := ⟨h.size, fun k o hk ho => h.same k o hk (.inr (.inr ho))⟩
theorem Kz.of_below {n0 : Nat} {T : TypeId → Prop} {S : Nat → Prop} {A B : World} (h : Below A.heap.size A B) (hs : ∀ k, S k → k < A.heap.size) : Kz n0 T S S A B :=
  ⟨h.os, h.tape, h.output, h.size, fun k o hk _ => (h.block k (blk_lt hk)).trans hk, fun k hk => ⟨Nat.lt_of_lt_of_le (hs k hk) h.size, .inl hk⟩⟩
/-- Objects of the iterator's own are turned besides. -/
theorem Kz.own {n0 B : Nat} {T : TypeId → Prop} {S S' : Nat → Prop} {W0 W W' : World} {row : Option Nat} (h : Kz n0 T S S' W0 W) (hB : W0.heap.size ≤ B) (hg : W.grownBy W' row) (hr : ∀ r, row = some r → B ≤ r) : Kz n0 T S S' W0 W' :=
  ⟨hg.os.trans h.os, hg.tape.trans h.tape, hg.output.trans h.output, Nat.le_trans h.size hg.size, fun k o hk ho => by
    have h1 := h.same k o hk ho
    rw [hg.block k (blk_lt h1) (fun e => by have := hr k e.symm; have := blk_lt hk; omega)]
    exact h1, fun k hk => ⟨Nat.lt_of_lt_of_le (h.sub k hk).1 hg.size, (h.sub k hk).2⟩⟩

/-- What is below n0 and n1, and the cells of the blocks in S and of the types T are as they were. -/
structure Agree (n0 n1 : Nat) (T : TypeId → Prop) (S : Nat → Prop) (W W' : World) : Prop where
  os : W'.os = W.os
  tape : W'.tape = W.tape
  output : W'.output = W.output
  size : W.heap.size ≤ W'.heap.size
  same : ∀ (k : Nat) (o : Obj), W.heap[k]? = some o → (k < n0 ∨ (S k ∧ o.isCells = true) ∨ InT T o ∨ k < n1) → W'.heap[k]? = some o
def FreeS (n0 n1 : Nat) (T : TypeId → Prop) (J : (Nat → Prop) → List Int → World → Prop) : Prop := ∀ S pre W W', J S pre W → Agree n0 n1 T S W W' → J S pre W'
theorem Agree.of_below {n0 n1 : Nat} {T : TypeId → Prop} {S : Nat → Prop} {A B : World} (h : Below A.heap.size A B) : Agree n0 n1 T S A B := ⟨h.os, h.tape, h.output, h.size, fun k o hk _ => (h.block k (blk_lt hk)).trans hk⟩
/-- An object of the iterator's own is turned: no cells of S, nothing below n0, none of the objects below n1. -/
theorem Agree.own {n0 n1 : Nat} {T : TypeId → Prop} {S : Nat → Prop} {W W' : World} {row : Option Nat} (hg : W.grownBy W' row) (hr : ∀ r, row = some r → n0 ≤ r ∧ n1 ≤ r ∧ ((¬ S r ∧ ∀ o, W.heap[r]? = some o → ¬ InT T o) ∨ ∃ o : Obj, W.heap[r]? = some o ∧ o.isCells = false)) : Agree n0 n1 T S W W' :=
  ⟨hg.os, hg.tape, hg.output, hg.size, fun k o hk ho => by
    rw [hg.block k (blk_lt hk) (fun e => by
      obtain ⟨h0, h1, h2⟩ := hr k e.symm
      rcases ho with ho | ho | ho | ho
      · omega
      · rcases h2 with h2 | ⟨o', e1, e2⟩
        · exact h2.1 ho.1
        · rw [hk] at e1; cases e1; rw [ho.2] at e2; cases e2
      · rcases h2 with h2 | ⟨o', e1, e2⟩
        · exact h2.2 o hk ho
        · rw [hk] at e1; cases e1; obtain ⟨cs, t, fr, rfl, _⟩ := ho; cases e2
      · omega)]
    exact hk⟩

/-- The iterator's word: it tells 'all', one behind the other, to whatever body goes on. -/
def SeqTells2 (P : Program) (T : TypeId → Prop) (g : Nat) (lb : Array Value) (n0 : Nat) (all : List Int) (w : World) : Prop :=
  ∀ (n l n1 : Nat) (J : (Nat → Prop) → List Int → World → Prop) (S : Nat → Prop) (W : World), Below w.heap.size w W → n1 ≤ W.heap.size → n0 ≤ W.heap.size → (∀ k, S k → k < W.heap.size) → FreeS n0 n1 T J →
    (∀ m S pre x W1, pre ++ [x] <+: all → J S pre W1 → (∀ k, S k → k < W1.heap.size) → YieldAt Fence.wide m P l #[.int .i64 x] W1 fun e W' => e = .returned (.bool true) ∧ ∃ S', J S' (pre ++ [x]) W' ∧ Kz n0 T S S' W1 W') →
    J S [] W → CallsIn Fence.wide n P g (#[.func (.yield l) #[] #[]] ++ lb) W fun e W' => (∃ v, e = .returned v) ∧ ∃ S', J S' all W' ∧ Kz n0 T S S' W W'

theorem wpIn_tells2 {P : Program} {T : TypeId → Prop} {n : Nat} {g : Operand} {p : Tmp} {assign body : Code} {Q : Exit → Act → World → Prop} {a : Act} {w w0 : World} {n0 : Nat} {all : List Int}
    {gf : Nat} {lb : Array Value} (hg : a.eval g = .func (.func gf) #[] lb) (eg : ∀ args w, (callFunc gf args).run P w = .ok (.enter gf args) w)
    (hseq : SeqTells2 P T gf lb n0 all w0) (hb0 : Below w0.heap.size w0 w) (hn0 : n0 ≤ w.heap.size)
    (I : (Nat → Prop) → List Int → World → Prop) (hF : FreeS n0 w.heap.size T I) (S0 : Nat → Prop) (hS0 : ∀ k, S0 k → k < w.heap.size) (h0 : I S0 [] w) (a1 : Int → Act)
    (hassign : ∀ (l m : Nat) (x : Int) (W : World) (K : Act → World → Prop), K (a1 x) W → assign.wpIn (Fence.wide.inRound l) m P (Exit.then K (fun _ _ _ => False)) { tmps := a.tmps.setIfInBounds p (.int .i64 x), defers := [] } W)
    (hbody : ∀ (l m : Nat) (S : Nat → Prop) (pre : List Int) (x : Int) (W : World), pre ++ [x] <+: all → I S pre W → (∀ k, S k → k < W.heap.size) → body.wpIn (Fence.wide.inRound l) m P (fun e _ W' => e = .normal ∧ ∃ S', Kz n0 T S S' W W' ∧ I S' (pre ++ [x]) W') (a1 x) W)
    (hdone : ∀ (D : Nat) (S' : Nat → Prop) (W : World), w.heap.size ≤ D → I S' all W → Kz n0 T S0 S' w W → W.heap[D]? = some (.deferred (some [])) → Q .normal { a with defers := { target := .collected D, args := #[] } :: a.defers } W) :
    (Code.rangeFunc g #[p] assign body).wpIn Fence.wide n P Q a w := by
  refine wpIn_rangeFunc fun fn hfn => ?_
  let rc : LoopState → Loop := fun st => { state := st, pending := none, fn, tmps := a.tmps, params := #[p], assign, body, defers := w.heap.size }
  have hW1 : Below w.heap.size w ((w.alloc (.deferred (some []))).alloc (.loop (rc .ready))) := ((Below.refl _ w).alloc (Nat.le_refl _) _).alloc (by simp) _
  have hl1 : ((w.alloc (.deferred (some []))).alloc (.loop (rc .ready))).heap[w.heap.size + 1]? = some (.loop (rc .ready)) := by
    have := World.alloc_heap_new (w.alloc (.deferred (some []))) (.loop (rc .ready)); rwa [World.size_alloc] at this
  have hd1 : ((w.alloc (.deferred (some []))).alloc (.loop (rc .ready))).heap[w.heap.size]? = some (.deferred (some [])) := (Below.heap_alloc _ _ _ (by simp)).trans (World.alloc_heap_new w _)
  have hs1 : ((w.alloc (.deferred (some []))).alloc (.loop (rc .ready))).heap.size = w.heap.size + 2 := by simp
  refine ⟨w.heap.size + 1, [{ target := .collected w.heap.size, args := #[] }], ((w.alloc (.deferred (some []))).alloc (.loop (rc .ready))), { target := .fn (.func gf) lb, args := #[.func (.yield (w.heap.size + 1)) #[] #[]] }, ((w.alloc (.deferred (some []))).alloc (.loop (rc .ready))), gf, #[.func (.yield (w.heap.size + 1)) #[] #[]] ++ lb, ((w.alloc (.deferred (some []))).alloc (.loop (rc .ready))), run_enterLoop_outer _ _ _ _ _, ?_, fun _ _ => trivial, ?_, fun h => (by cases h), ?_⟩
  · simp only [resolve, hg]
    simp [go_sem]
  · simp [invoke, go_sem, eg]
  · have hJ : FreeS n0 (w.heap.size + 2) T (fun S pre W => I S pre W ∧ W.heap[w.heap.size + 1]? = some (.loop (rc .ready)) ∧ W.heap[w.heap.size]? = some (.deferred (some []))) := fun S pre A B hs hag =>
      ⟨hF S pre A B hs.1 ⟨hag.os, hag.tape, hag.output, hag.size, fun k o hk ho => hag.same k o hk (by
        rcases ho with ho | ho | ho | ho
        · exact .inl ho
        · exact .inr (.inl ho)
        · exact .inr (.inr (.inl ho))
        · exact .inr (.inr (.inr (by omega))))⟩, hag.same _ _ hs.2.1 (.inr (.inr (.inr (by omega)))), hag.same _ _ hs.2.2 (.inr (.inr (.inr (by omega))))⟩
    refine (hseq (n - 1) (w.heap.size + 1) (w.heap.size + 2) _ S0 _ (hb0.trans (hW1.mono hb0.size)) (by simp) (by simp; omega) (fun k hk => by have := hS0 k hk; omega) hJ ?_ ⟨hF _ _ _ _ h0 (Agree.of_below hW1), hl1, hd1⟩).mono ?_
    · rintro m S pre x W hxa ⟨hi, hl, hd⟩ hSW
      have hy := run_yield (P := P) (args := #[Value.int .i64 x]) hl rfl
      have htm : ((rc .ready).params.zip #[Value.int .i64 x]).foldl (fun tmps (t, a) => tmps.setIfInBounds t a) (rc .ready).tmps = a.tmps.setIfInBounds p (.int .i64 x) := by simp [rc]
      rw [htm] at hy
      refine ⟨fn, _, assign, body, hy, roundIn_of_wpIn hfn (hassign _ _ x W _ ⟨_, run_beginRound hl rfl, ?_⟩)⟩
      have hlt := blk_lt hl
      have hl2 : (W.putObj (w.heap.size + 1) (.loop { rc .ready with state := .busy })).heap[w.heap.size + 1]? = some (.loop { rc .ready with state := .busy }) := World.putObj_heap_same hlt
      have hag2 : Agree n0 w.heap.size T S W (W.putObj (w.heap.size + 1) (.loop { rc .ready with state := .busy })) := Agree.own (grownBy_putObj' _ _ _) (fun r e => by cases e; exact ⟨by omega, by omega, .inr ⟨_, hl, rfl⟩⟩)
      refine wpIn_mono (hbody _ _ S pre x _ hxa (hF _ _ _ _ hi hag2) (fun k hk => by have := hSW k hk; simpa using this)) ?_
      rintro e a3 W3 ⟨rfl, S', hk3, hi3⟩
      have hl3 := hk3.same _ _ hl2 (.inr (.inr rfl))
      have he := run_endRound (P := P) none hl3
      have hag3 : Agree n0 w.heap.size T S' W3 (W3.putObj (w.heap.size + 1) (.loop (rc .ready))) := Agree.own (grownBy_putObj' _ _ _) (fun r e => by cases e; exact ⟨by omega, by omega, .inr ⟨_, hl3, rfl⟩⟩)
      refine ⟨_, _, he, rfl, S', ⟨hF _ _ _ _ hi3 hag3, World.putObj_heap_same (blk_lt hl3), ?_⟩, hk3.os, hk3.tape, hk3.output, ?_, fun k o hk ho => ?_, fun k hk => ?_⟩
      · rw [World.putObj_heap_other (by omega)]
        exact hk3.same _ _ ((World.putObj_heap_other (by omega)).trans hd) (.inr (.inr rfl))
      · have := hk3.size; simpa using this
      · by_cases hkl : k = w.heap.size + 1
        · subst hkl
          rw [hl] at hk
          cases hk
          exact World.putObj_heap_same (blk_lt hl3)
        · rw [World.putObj_heap_other hkl]
          exact hk3.same k o ((World.putObj_heap_other hkl).trans hk) ho
      · have := hk3.sub k hk
        simpa using this
    · rintro e W2 ⟨⟨v, rfl⟩, S', ⟨hi, hl, hd⟩, hk⟩
      have hag : Agree n0 w.heap.size T S' W2 (W2.putObj (w.heap.size + 1) (.loop { rc .ready with state := .exhausted })) := Agree.own (grownBy_putObj' _ _ _) (fun r e => by cases e; exact ⟨by omega, by omega, .inr ⟨_, hl, rfl⟩⟩)
      refine ⟨none, _, run_endLoop (P := P) hl (by simp [rc]), hdone _ S' _ (Nat.le_refl _) (hF _ _ _ _ hi hag) ?_ ((World.putObj_heap_other (by omega)).trans hd)⟩
      refine ⟨hk.os, hk.tape, hk.output, ?_, fun k o hk1 ho => ?_, fun k hk1 => ?_⟩
      · have := hk.size; simp at this ⊢; omega
      · have hkw := blk_lt hk1
        rw [World.putObj_heap_other (by omega)]
        exact hk.same k o ((hW1.block k hkw).trans hk1) ho
      · have := hk.sub k hk1
        refine ⟨by simpa using this.1, ?_⟩
        rcases this.2 with h | h
        · exact .inl h
        · exact .inr (by omega)
end Go.Proofs.YtogdbjafibejdaaGreat
