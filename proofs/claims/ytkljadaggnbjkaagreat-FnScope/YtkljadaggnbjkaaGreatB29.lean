import Derived.Test.YtkljadaggnbjkaaGreatB28
import Derived.Test.YtkljadaggnbjkaaGreatB22
import Derived.Test.YtkljadaggnbjkaaGreatB2
import Derived.Test.YtkljadaggnbjkaaGreatB23
import Derived.Test.YtkljadaggnbjkaaGreatB27
/- The law FnRow: its helper, and plain facts. No condition. -/
namespace Go.Proofs.YtkljadaggnbjkaaGreat
open Go.RowKit
set_option maxRecDepth 100000
set_option linter.unusedVariables false

theorem sameInts_any {v1 v2 : Value} {xs ys : List Int} {w : World} (h1 : Sl .i64 w v1 xs) (h2 : Sl .i64 w v2 ys) (hx : xs.length ≤ 1099511627776) (hy : ys.length ≤ 1099511627776) :
    Calls Tryz.prog 8 #[v1, v2] w fun e w' => e = .returned (.bool (decide (xs = ys))) ∧ Below w.heap.size w w' := by
  obtain ⟨a, ca, rfl, _, _, _, ha⟩ := h1
  obtain ⟨b, cb, rfl, _, _, _, hb⟩ := h2
  by_cases hl : xs.length = ys.length
  · have hl1 : ((xs.length : Int) != (ys.length : Int)) = false := by simp [hl]
    have HL : Hid (xs.length = ys.length) := hl
    clear hl
    go_enter Tryz.func8, Tryz.ntmps8
    go_wp2
    go_loopw [5] (fun i wr => ∃ k : Nat, k ≤ xs.length ∧ i = .int .i64 k ∧ xs.take k = ys.take k ∧ ∃ n, wr = w.drewN n) (fun i _ => xs.length - (intOf i).toNat)
    case atStart => exact ⟨0, Nat.zero_le _, rfl, by simp, 0, rfl⟩
    case round =>
      obtain ⟨k, hk, rfl, ht, n, rfl⟩ := hrel
      by_cases hlt : k < xs.length
      · have hlt2 : k < ys.length := by rw [← HL.out]; exact hlt
        obtain ⟨b1, o1, rfl, c1⟩ := ha k hlt
        obtain ⟨b2, o2, rfl, c2⟩ := hb k hlt2
        have HT : Hid (xs.take k = ys.take k) := ht
        clear ht ha hb
        go_wp2
        go_quiet (fail)
        go_wp2
        · go_ret
          have hne : (xs[k] != ys[k]) = true := by assumption
          exact ⟨ret_bool (by simp at hne; simp; intro h; subst h; exact hne rfl), (below_drewN _).trans (below_drewN _)⟩
        · have hne : (xs[k] != ys[k]) = false := by assumption
          go_roundw
          case rel => exact ⟨k + 1, by omega, by go_num, take_eq_succ hlt hlt2 HT.out (by simp at hne; simpa [List.getD_eq_getElem?_getD, hlt, hlt2] using hne), _, rfl⟩
          case measure => simp [intOf]; omega
      · have HT : Hid (xs.take k = ys.take k) := ht
        clear ht ha hb
        go_wp2
        go_ret
        have hke : k = xs.length := by omega
        exact ⟨ret_bool (by have h := HT.out; rw [hke] at h; simp [eq_of_take HL.out h]), below_drewN n⟩
  · have hl1 : ((xs.length : Int) != (ys.length : Int)) = true := by simp; omega
    go_enter Tryz.func8, Tryz.ntmps8
    go_wp2
    go_ret
    exact ⟨ret_bool (by simp; intro h; exact hl (by rw [h])), Below.refl _ _⟩


theorem popL_le (ns : List PNode) (nm : ByteArray) (row : List Int) : (popL ns nm row).length ≤ row.length := by
  unfold popL; split
  · exact Nat.le_refl _
  · simp; omega
theorem take_self {xs row : List Int} {n : Nat} (h : xs = row.take n) : xs = row.take xs.length := by
  rw [h, List.length_take]
  by_cases hn : n ≤ row.length
  · rw [Nat.min_eq_left hn]
  · rw [Nat.min_eq_right (by omega), List.take_length, List.take_of_length_le (by omega)]
theorem popL_take (ns : List PNode) (nm : ByteArray) (row : List Int) : popL ns nm row = row.take (popL ns nm row).length := by
  unfold popL; split
  · rw [List.take_length]
  · exact take_self rfl
theorem impL_take (ns : List PNode) (nm : ByteArray) (row : List Int) : impL ns nm row = row.take (impL ns nm row).length := take_self (show impL ns nm row = row.take _ from rfl)
theorem impL_le (ns : List PNode) (nm : ByteArray) (row : List Int) : (impL ns nm row).length ≤ row.length := by simp [impL]; omega
theorem impL_one (ns : List PNode) (nm : ByteArray) {row : List Int} (h : 0 < row.length) : 1 ≤ (impL ns nm row).length := by simp [impL]; omega
theorem impL_behind {ns : List PNode} {nm : ByteArray} {row : List Int} {i : Nat} (h : (impL ns nm row).length ≤ i) (hi : i < row.length) : stays ns nm (row.getD i 0) = false := by
  refine lastAt_above i ?_ hi
  simp only [impL, List.length_take] at h
  omega
theorem popL_place {ns : List PNode} {nm : ByteArray} {row : List Int} (h : ¬ lastAt (named ns nm) row row.length = 0) : ((popL ns nm row).length = lastAt (named ns nm) row row.length - 1 ∧ 1 < lastAt (named ns nm) row row.length) ∨ (lastAt (named ns nm) row row.length = 1 ∧ (popL ns nm row).length = 1) := by
  have hl := lastAt_le (named ns nm) row row.length
  rw [popL, if_neg h, List.length_take]
  omega
theorem popL_none {ns : List PNode} {nm : ByteArray} {row : List Int} (h : lastAt (named ns nm) row row.length = 0) : popL ns nm row = row := by rw [popL, if_pos h]
theorem okP_iff {ns : List PNode} (h : parOf ns 0 = -1) {Q : Prop} : (STreeOkP ns ∧ Q) ↔ (TreeOkP ns ∧ Q) := ⟨fun x => ⟨x.1.1, x.2⟩, fun x => ⟨⟨x.1, h⟩, x.2⟩⟩
end Go.Proofs.YtkljadaggnbjkaaGreat

/- A tree and a row with an element more; scopes. No condition. -/
namespace Go.Proofs.YtkljadaggnbjkaaGreat
open Go.RowKit
set_option maxRecDepth 100000
set_option linter.unusedVariables false

theorem kidsOf_snoc {ns : List PNode} {nd : PNode} (hk : nd.kids = []) (k : Nat) : kidsOf (ns ++ [nd]) k = kidsOf ns k := by
  unfold kidsOf
  by_cases h : k < ns.length
  · rw [List.getElem?_append_left h]
  · rw [List.getElem?_append_right (by omega), List.getElem?_eq_none (by omega : ns.length ≤ k)]
    by_cases h2 : k = ns.length
    · subst h2; simp [hk]
    · rw [List.getElem?_eq_none (by simp; omega)]
theorem parOf_snoc {ns : List PNode} {nd : PNode} (hp : nd.parent = -1) (k : Nat) : parOf (ns ++ [nd]) k = parOf ns k := by
  unfold parOf
  by_cases h : k < ns.length
  · rw [List.getElem?_append_left h]
  · rw [List.getElem?_append_right (by omega), List.getElem?_eq_none (by omega : ns.length ≤ k)]
    by_cases h2 : k = ns.length
    · subst h2; simp [hp]
    · rw [List.getElem?_eq_none (by simp; omega)]
theorem dep_snoc {ns : List PNode} {nd : PNode} (hk : nd.kids = []) (hp : nd.parent = -1) : ∀ (d i : Nat), dep ns d i → dep (ns ++ [nd]) d i
  | 0, i, h => ⟨by have := h.1; simp; omega, by rw [parOf_snoc hp]; exact h.2⟩
  | d + 1, i, h => by
    obtain ⟨p, h1, h2⟩ := h
    exact ⟨p, dep_snoc hk hp d p h1, by rw [kidsOf_snoc hk]; exact h2⟩

/-- An element below none may be put behind, where there is room. -/
theorem tree_snoc {ns : List PNode} (h : TreeOkP ns) {nd : PNode} (hk : nd.kids = []) (hp : nd.parent = -1) (hn : nd.kind ≠ 1) (hg : nodeB nd.kind nd.name nd.attrs nd.text nd.kids.length = true) (hl : ns.length < 500) : TreeOkP (ns ++ [nd]) := by
  have h1 := h.one
  refine ⟨by simp, by simp; omega, fun k hlt => ?_, fun k hlt => ?_, fun i hi => ?_⟩
  · by_cases hk2 : k < ns.length
    · rw [List.getElem_append_left hk2]
      exact h.good k hk2
    · have e : k = ns.length := by simp at hlt; omega
      subst e
      rw [List.getElem_append_right (Nat.le_refl _)]
      simp only [Nat.sub_self, List.getElem_cons_zero]
      rw [goodB, hg, decide_eq_false hn, decide_eq_false (by omega)]
      rfl
  · rw [kidsOf_snoc hk]
    by_cases hk2 : k < ns.length
    · obtain ⟨f1, f2⟩ := h.fit k hk2
      refine ⟨f1, fun x hx => ?_⟩
      obtain ⟨g1, g2, g3⟩ := f2 x hx
      exact ⟨g1, by simp; omega, by rw [parOf_snoc hp]; exact g3⟩
    · rw [kidsOf_out hk2]
      exact ⟨List.nodup_nil, fun x hx => by cases hx⟩
  · by_cases hi2 : i < ns.length
    · obtain ⟨d, hd⟩ := h.linked i hi2
      exact ⟨d, dep_snoc hk hp d i hd⟩
    · refine ⟨0, hi, ?_⟩
      rw [parOf_snoc hp, parOf, List.getElem?_eq_none (by omega)]
      rfl
theorem tree_full {ns : List PNode} {nd : PNode} (hl : ¬ ns.length < 500) : ¬ TreeOkP (ns ++ [nd]) := fun h => by
  have := h.most
  simp at this
  omega

theorem elB_snoc {ns : List PNode} {nd : PNode} {x : Int} (h : elB ns x = true) : elB (ns ++ [nd]) x = true := by
  obtain ⟨k, rfl, hk⟩ := elB_at h
  rw [elB, Bool.and_eq_true] at h ⊢
  refine ⟨?_, ?_⟩
  · simp only [inB, Bool.and_eq_true, decide_eq_true_eq, List.length_append, List.length_singleton]
    exact ⟨by omega, by omega⟩
  · have : kdOf (ns ++ [nd]) (k : Int) = kdOf ns (k : Int) := by rw [kdOf_at (by simp; omega), kdOf_at hk, List.getElem_append_left hk]
    rw [this]; exact h.2
theorem row_snoc {ns : List PNode} {row : List Int} (h : RowP ns row) {nd : PNode} (hk : nd.kind = 3) (hl : row.length < 40) : RowP (ns ++ [nd]) (row ++ [(ns.length : Int)]) := by
  refine ⟨by simp; omega, fun i hi => ?_, fun i k hi hki => ?_⟩
  · by_cases h2 : i < row.length
    · rw [List.getElem_append_left h2]
      exact elB_snoc (h.el i h2)
    · have e : i = row.length := by simp at hi; omega
      subst e
      rw [List.getElem_append_right (Nat.le_refl _)]
      simp only [Nat.sub_self, List.getElem_cons_zero]
      rw [elB, Bool.and_eq_true]
      refine ⟨by simp [inB], ?_⟩
      rw [kdOf_at (by simp), List.getElem_append_right (Nat.le_refl _)]
      simpa using hk
  · have hk2 : k < row.length := by simp at hi; omega
    rw [List.getElem_append_left hk2]
    by_cases h2 : i < row.length
    · rw [List.getElem_append_left h2]
      exact h.once i k h2 hki
    · have e : i = row.length := by simp at hi; omega
      subst e
      rw [List.getElem_append_right (Nat.le_refl _)]
      simp only [Nat.sub_self, List.getElem_cons_zero]
      obtain ⟨m, e1, e2⟩ := elB_at (h.el k hk2)
      rw [e1]
      omega

def tableB : ByteArray := ⟨#[116, 97, 98, 108, 101]⟩
theorem bnd_table : bnd 1 tableB = true := by kernel_rfl
/-- A table behind all bounds every scope. -/
theorem scope_snoc {ns : List PNode} {row : List Int} {nd : PNode} (hn : nd.name = tableB) (nm : ByteArray) : scopeB (ns ++ [nd]) nm 1 (row ++ [(ns.length : Int)]) = decide (tableB = nm) := by
  have e1 : (row ++ [(ns.length : Int)]).length = row.length + 1 := by simp
  have e2 : (row ++ [(ns.length : Int)]).getD row.length 0 = (ns.length : Int) := by simp [List.getD_eq_getElem?_getD]
  have e3 : nmOf (ns ++ [nd]) (ns.length : Int) = tableB := by rw [nmOf_at (by simp), List.getElem_append_right (Nat.le_refl _)]; simpa using hn
  have e4 : lastAt (halts (ns ++ [nd]) nm 1) (row ++ [(ns.length : Int)]) (row ++ [(ns.length : Int)]).length = row.length + 1 := by
    rw [e1]
    refine lastAt_yes ?_
    rw [e2, halts, e3, bnd_table, Bool.or_true]
  rw [scopeB_at e4, e2, e3]

theorem bnd_less {kind : Int} {s : ByteArray} (h : bnd kind s = false) : bnd 1 s = false := by
  unfold bnd at h ⊢
  rw [Bool.or_eq_false_iff] at h
  rw [h.1]
  simp
/-- What is in a scope is open, and in the scope of all. -/
theorem scope_less {ns : List PNode} {nm : ByteArray} {kind : Int} {row : List Int} : ∀ n, n ≤ row.length → (0 < lastAt (halts ns nm kind) row n ∧ nmOf ns (row.getD (lastAt (halts ns nm kind) row n - 1) 0) = nm) → lastAt (halts ns nm 1) row n = lastAt (halts ns nm kind) row n ∧ lastAt (named ns nm) row n = lastAt (halts ns nm kind) row n
  | 0, _, h => by simp [lastAt] at h
  | n + 1, hn, h => by
    cases hp : halts ns nm kind (row.getD n 0) with
    | true =>
      rw [lastAt_yes hp] at h ⊢
      simp only [Nat.add_sub_cancel] at h
      have e : decide (nmOf ns (row.getD n 0) = nm) = true := decide_eq_true h.2
      exact ⟨lastAt_yes (by rw [halts, e, Bool.true_or]), lastAt_yes (by rw [named, e])⟩
    | false =>
      have hp2 := hp
      rw [halts, Bool.or_eq_false_iff] at hp2
      rw [lastAt_no hp] at h ⊢
      rw [lastAt_no (show halts ns nm 1 (row.getD n 0) = false by rw [halts, hp2.1, bnd_less hp2.2]; rfl), lastAt_no (show named ns nm (row.getD n 0) = false by rw [named]; exact hp2.1)]
      exact scope_less n (by omega) h
theorem scope_all {ns : List PNode} {nm : ByteArray} {kind : Int} {row : List Int} (h : scopeB ns nm kind row = true) : scopeB ns nm 1 row = true ∧ 0 < lastAt (named ns nm) row row.length := by
  have h' : 0 < lastAt (halts ns nm kind) row row.length ∧ nmOf ns (row.getD (lastAt (halts ns nm kind) row row.length - 1) 0) = nm := by simpa [scopeB] using h
  obtain ⟨e1, e2⟩ := scope_less row.length (Nat.le_refl _) h'
  exact ⟨by rw [scopeB, e1]; exact h, by rw [e2]; exact h'.1⟩

/-- InScope of the program, of any tree and row and kind. -/
theorem iinScope_b {w : World} {v rv : Value} {ns : List PNode} {row : List Int} (hn : NodesAt w v ns) (hfit : ∀ n ∈ ns, NodeFit n) (hlen : ns.length ≤ 1048576) (hr : Sl .i64 w rv row) (hrl : row.length ≤ 1048576) (nm : ByteArray) (kind : Int) :
    Calls Tryz.prog 15 #[.agg #[v], rv, .string nm, .int .i64 kind] w fun e w' => ∃ r, e = .returned (.bool r) ∧ (r = true ↔ (TreeOkP ns ∧ RowP ns row) ∧ (1 ≤ kind ∧ kind ≤ 3) ∧ scopeB ns nm kind row = true) ∧ Below w.heap.size w w' := by
  by_cases hk : 1 ≤ kind ∧ kind ≤ 3
  · refine Calls.mono (iinScope_any hn hfit hlen hr hrl nm hk.1 hk.2) ?_
    rintro e w' ⟨r, rfl, ⟨h1, h2⟩, b⟩
    refine ⟨r, rfl, ?_, b⟩
    by_cases hP : TreeOkP ns ∧ RowP ns row
    · rw [h1 hP]; exact ⟨fun h => ⟨hP, hk, h⟩, fun h => h.2.2⟩
    · rw [h2 hP]; exact ⟨fun h => (by cases h), fun h => absurd h.1 hP⟩
  · refine Calls.mono (iinScope_no hn hfit hlen hr hrl nm hk) ?_
    rintro e w' ⟨rfl, b⟩
    exact ⟨false, rfl, ⟨fun h => (by cases h), fun h => absurd h.2.1 hk⟩, b⟩
end Go.Proofs.YtkljadaggnbjkaaGreat

/- The draw DrawInScope. No condition. -/
namespace Go.Proofs.YtkljadaggnbjkaaGreat
open Go.RowKit
set_option maxRecDepth 100000
set_option linter.unusedVariables false

theorem four_res {f : Func} {p q u s : Tmp} (hf : f.results = #[.cell p 26, .tmp q, .tmp u, .tmp s]) {tmps : Array Value} {w : World} {g : Nat} {a : Option Addr} {n c : Nat} (h4 : tmps.getD p undef = .pointer (some ⟨g, 0, none⟩)) (hb : w.heap[g]? = some (.cells #[.slice a n c] 26 (0, 0))) :
    (results f tmps).run Tryz.prog w = .ok (.tuple #[.agg #[.slice a n c], tmps.getD q undef, tmps.getD u undef, tmps.getD s undef]) w := by
  have h4' : tmps[p]?.getD undef = .pointer (some ⟨g, 0, none⟩) := by simpa using h4
  simp [results, hf, h4', asAddr, run_loadVar_row w g 26 26 #[.slice a n c] (0, 0) _ hb Tryz.underlying26 rfl rfl]

set_option maxHeartbeats 2000000 in
set_option maxRecDepth 100000 in
theorem drawInScope_any {v : Value} {xs : List Int} {w : World} (h : Sl .u8 w v xs) (hb : ∀ x ∈ xs, 0 ≤ x ∧ x ≤ 255) (hn : xs.length ≤ 1099511627776) :
    Calls Tryz.prog 14 #[v] w fun e w' => ∃ nv rv ns row nm, ∃ kind : Int, e = .returned (.tuple #[.agg #[nv], rv, .string nm, .int .i64 kind]) ∧ Both w w' nv rv ns row nm := by
  have HB := (show Hid (∀ x ∈ xs, 0 ≤ x ∧ x ≤ 255) from hb)
  have HS := (show Hid (Sl .u8 w v xs) from h)
  obtain ⟨a, ca, rfl, _, _, _, ha⟩ := h
  clear hb ha
  obtain ⟨wA, hwA⟩ : ∃ wA, wA = w.alloc (.cells #[.slice none 0 0] 26) := ⟨_, rfl⟩
  have bA : Below w.heap.size w wA := by rw [hwA]; exact (Below.refl _ _).alloc (Nat.le_refl _) _
  have gA : wA.heap[w.heap.size]? = some (.cells #[.slice none 0 0] 26 (0, 0)) := by rw [hwA]; exact World.alloc_heap_new _ _
  have hsA : w.heap.size < wA.heap.size := blk_lt gA
  have HGA := (show Hid _ from gA)
  clear gA
  go_enter Tryz.func14, Tryz.ntmps14
  go_wp2_with fail
  go_at_call 29
  rw [← hwA]
  clear hwA
  refine Calls.mono (new_any (HS.out.below bA) HB.out hn) ?_
  rintro e w1 ⟨rfl, k1, b1⟩
  obtain ⟨g, hg⟩ : ∃ g, g = wA.heap.size := ⟨_, rfl⟩
  rw [← hg] at k1 hsA ⊢
  have hgl := k1.lt
  have HG1 := (show Hid (w1.heap[w.heap.size]? = some (.cells #[.slice none 0 0] 26 (0, 0))) from (b1.block _ (blk_lt HGA.out)).trans HGA.out)
  have HB1 := (show Hid (Below w.heap.size w w1) from bA.trans (b1.mono bA.size))
  have HK1 := (show Hid (Cur wA g (.slice a xs.length ca) xs w1) from k1)
  clear k1 b1 hg HGA bA HS
  go_wp2_with fail
  go_at_call 30
  refine Calls.mono (sdrawRow_any HK1.out HB.out) ?_
  rintro e w2 ⟨nv, rv, ns, row, rfl, own2, rw2, hfit, hlen, hrl, hpar, k2, g2⟩
  obtain ⟨na, nn, nc, rfl⟩ : ∃ a n c, nv = .slice a n c := by obtain ⟨_, _, h, _⟩ := own2; exact own_slice h
  obtain ⟨ra, rn, rc, rfl⟩ := own_slice rw2
  obtain ⟨w3, hw3⟩ : ∃ w3, w3 = w2.alloc (.cells #[.slice na nn nc] 26) := ⟨_, rfl⟩
  have b3 : Below w2.heap.size w2 w3 := by rw [hw3]; exact (Below.refl _ _).alloc (Nat.le_refl _) _
  have g3 : w3.heap[w2.heap.size]? = some (.cells #[.slice na nn nc] 26 (0, 0)) := by rw [hw3]; exact World.alloc_heap_new _ _
  have hN3 : w3.heap[w.heap.size]? = some (.cells #[.slice none 0 0] 26 (0, 0)) := (b3.block _ (Nat.lt_of_lt_of_le (blk_lt HG1.out) g2.size)).trans ((g2.block _ (blk_lt HG1.out) (fun e => by simp only [Option.some.injEq] at e; omega)).trans HG1.out)
  have y3 : w3.cell? ⟨w2.heap.size, 0, none⟩ = some (.slice na nn nc) := by simp only [World.cell?, g3]; rfl
  have hs1 := HB1.out.size
  have hs2 := g2.size
  have hgs : g ≠ w2.heap.size := by omega
  have HF := (show Hid (∀ n ∈ ns, NodeFit n) from hfit)
  have HPAR := (show Hid (parOf ns 0 = -1) from hpar)
  have HO3 := (show Hid (OwnN w1.heap.size w3 (.slice na nn nc) ns) from own2.below b3)
  have HR3 := (show Hid (Own w1.heap.size 3 .i64 w3 (.slice ra rn rc) row) from rw2.below b3)
  have HK3 := (show Hid (Cur wA g (.slice a xs.length ca) xs w3) from k2.below b3)
  have HB3 := (show Hid (Below w.heap.size w w3) from (HB1.out.grown g2 HB1.out.size (fun r e => by cases e; omega)).trans (b3.mono (by have := g2.size; omega)))
  have HG3 := (show Hid _ from g3)
  have HN3 := (show Hid _ from hN3)
  clear own2 rw2 hfit hpar k2 g2 b3 g3 hN3 HG1 HB1 HK1
  go_upto_region 3 with fail
  rw [← hw3]
  clear hw3
  go_wp2_with fail
  go_at_call 31
  refine Calls.mono (drawName10_any HK3.out HB.out) ?_
  rintro e w4 ⟨nm, rfl, hnm, k4, g4⟩
  have e4 := (g4.block _ (blk_lt HG3.out) (fun e => by simp only [Option.some.injEq] at e; exact hgs e.symm)).trans HG3.out
  have y4 : w4.cell? ⟨w2.heap.size, 0, none⟩ = some (.slice na nn nc) := by simp only [World.cell?, e4]; rfl
  have e5 := (g4.block _ (blk_lt HN3.out) (fun e => by simp only [Option.some.injEq] at e; omega)).trans HN3.out
  have HG4 := (show Hid (w4.heap[w2.heap.size]? = some (.cells #[.slice na nn nc] 26 (0, 0))) from e4)
  have HN4 := (show Hid (w4.heap[w.heap.size]? = some (.cells #[.slice none 0 0] 26 (0, 0))) from e5)
  have HO4 := (show Hid (OwnN w1.heap.size w4 (.slice na nn nc) ns) from ownN_low HO3.out g4 (fun k e => by cases e; exact hgl))
  have HR4 := (show Hid (Own w1.heap.size 3 .i64 w4 (.slice ra rn rc) row) from own_low HR3.out g4 (fun k e => by cases e; exact hgl))
  have HB4 := (show Hid (Below w.heap.size w w4) from HB3.out.grown g4 HB3.out.size (fun r e => by cases e; omega))
  have HK4 := (show Hid (Cur wA g (.slice a xs.length ca) xs w4) from k4)
  clear e4 e5 g4 k4 HG3 HN3 HO3 HR3 HB3 HK3 y3
  have bd : Below w4.heap.size w4 w4.drew := below_drewN 1
  go_wp2
  go_region_with (first
    | (go_at_call 32; with_reducible refine Calls.mono (below_any 3 (by omega) (HK4.out.below bd) HB.out) ?_; rintro e w5 ⟨x, rfl, x0, x1, x2, k5, g5⟩
       replace x1 := x1 (by omega)
       have e6 := (g5.block _ (blk_lt HG4.out) (fun e => by simp only [Option.some.injEq] at e; exact hgs e.symm)).trans HG4.out
       have y6 : w5.cell? ⟨w2.heap.size, 0, none⟩ = some (.slice na nn nc) := by simp only [World.cell?, e6]; rfl
       have H6 := (show Hid (w5.heap[w2.heap.size]? = some (.cells #[.slice na nn nc] 26 (0, 0))) from e6)
       have HK5 := (show Hid (Cur wA g (.slice a xs.length ca) xs w5) from k5)
       have HG5 := (show Hid (w4.drew.grownBy w5 (some g)) from g5)
       clear e6 x2 g5 k5)
    | (go_at_call 32; with_reducible refine Calls.mono (below_any 20 (by omega) HK5.out HB.out) ?_; rintro e w6 ⟨z, rfl, z0, z1, z2, k6, g6⟩
       replace z1 := z1 (by omega)
       have e7 := (g6.block _ (blk_lt H6.out) (fun e => by simp only [Option.some.injEq] at e; exact hgs e.symm)).trans H6.out
       have y7 : w6.cell? ⟨w2.heap.size, 0, none⟩ = some (.slice na nn nc) := by simp only [World.cell?, e7]; rfl
       have hgg := grown_both HG5.out g6
       have e5 := (hgg.block _ (blk_lt HN4.out) (fun e => by simp only [Option.some.injEq] at e; omega)).trans HN4.out
       have y5 : w6.cell? ⟨w.heap.size, 0, none⟩ = some (.slice none 0 0) := by simp only [World.cell?, e5]; rfl
       have z5 : w6.frozen? ⟨w.heap.size, 0, none⟩ = false := by simp [World.frozen?, e5]
       have H5 := (show Hid _ from e5)
       have HG6 := (show Hid (w4.drew.grownBy w6 (some g)) from hgg)
       clear e7 e5 hgg g6 k6 z2))
  all_goals
    go_wp2
    have gs := setCell_at (k := 0) (u := .slice na nn nc) H5.out
    have gr := grown_setCell w6 w.heap.size 0 (.slice na nn nc)
    have o6 := ownN_low (HO4.out.below bd) HG6.out (fun k e => by cases e; exact hgl)
    have r6 := own_low (HR4.out.below bd) HG6.out (fun k e => by cases e; exact hgl)
    have b6 : Below w.heap.size w w6 := (HB4.out.trans (bd.mono HB4.out.size)).grown HG6.out (Nat.le_trans HB4.out.size bd.size) (fun r e => by cases e; omega)
    refine bodyPost_ret (four_res (f := Tryz.f14) (p := 2) (q := 3) (u := 4) (s := 5) rfl rfl gs) rfl ?_
    refine ⟨_, _, ns, row, nm, _, rfl, ⟨(o6.kept gr (fun k e => by cases e; exact ⟨_, _, _, H5.out, by decide, by decide, by decide⟩)).base hs1, (show Own _ 3 .i64 _ _ row from kept_of_type r6 gr (fun k e => by cases e; exact ⟨_, _, _, H5.out, by decide⟩)).base hs1, HF.out, hlen, hrl, HPAR.out, hnm, b6.setCell (p := ⟨w.heap.size, 0, none⟩) (Nat.le_refl _) _⟩⟩
end Go.Proofs.YtkljadaggnbjkaaGreat

/- The law FnScope, walked. No condition. -/
namespace Go.Proofs.YtkljadaggnbjkaaGreat
open Go.RowKit
set_option maxRecDepth 100000
set_option linter.unusedVariables false

theorem sl_lit1 (w : World) (n : Int) (t : TypeId) : Sl .i64 (w.alloc (.cells #[.int .i64 n] t)) (.slice (some ⟨w.heap.size, 0, none⟩) 1 1) [n] := by
  refine ⟨some ⟨w.heap.size, 0, none⟩, 1, rfl, Nat.le_refl _, by decide, (fun e => by cases e), fun j hj => ?_⟩
  obtain rfl : j = 0 := by simp at hj; omega
  refine ⟨w.heap.size, 0, rfl, ?_⟩
  simp only [World.cell?, heap_alloc_new]
  rfl
theorem table_fit : NodeFit ⟨3, tableB, [], ⟨#[]⟩, -1, []⟩ := ⟨by decide, by decide, by decide, (fun p hp => by cases hp), by decide⟩
theorem scope_table {ns : List PNode} (row : List Int) {nd : PNode} (hn : nd.name = tableB) : scopeB (ns ++ [nd]) ⟨#[116, 97, 98, 108, 101]⟩ 1 (row ++ [(ns.length : Int)]) = true := (scope_snoc hn _).trans (decide_eq_true rfl)
theorem table_good : nodeB 3 tableB [] ⟨#[]⟩ 0 = true := by kernel_rfl

set_option maxHeartbeats 4000000 in
set_option maxRecDepth 100000 in
theorem fnScope_walk {v : Value} {xs : List Int} (w : World) (h : Sl .u8 w v xs) (hwf : ∀ n ∈ xs, (Lit.int .u8 n).wf = true) :
    Calls Tryz.prog 4 #[v] w fun e w' => e = .returned (.bool true) ∧ Below w.heap.size w w' := by
  have HB : Hid (∀ x ∈ xs, 0 ≤ x ∧ x ≤ 255) := byte_ok hwf
  clear hwf
  have hbig := big_any h
  by_cases hl : 1048576 < xs.length
  · rw [decide_eq_true hl] at hbig
    go_enter Tryz.func4, Tryz.ntmps4
    go_wp2_with fail
    go_at_call 5
    refine hbig.mono ?_
    rintro e w1 ⟨rfl, rfl⟩
    go_wp2
    go_ret
    exact ⟨rfl, Below.refl _ _⟩
  rw [decide_eq_false hl] at hbig
  have HD := (show Hid _ from drawInScope_any h HB.out (by omega))
  have HBG := (show Hid _ from hbig)
  clear h HB hl hbig
  go_enter Tryz.func4, Tryz.ntmps4
  go_wp2_with fail
  go_at_call 5
  refine Calls.mono HBG.out ?_
  rintro e w0 ⟨rfl, rfl⟩
  clear HBG
  go_wp2_with fail
  go_at_call 14
  refine Calls.mono HD.out ?_
  rintro e w1 ⟨nv, rv, ns, row, nm, kind, rfl, B1⟩
  clear HD
  obtain ⟨na, ncap, rfl, hc1, hc2, j1⟩ := B1.own.nodes.slice
  obtain ⟨ra, rc, rfl, hrc, hrm, j2, j3⟩ := B1.rw.sl
  clear j1 j2 j3
  have HNA := (show Hid (NodesAt w1 (.slice na ns.length ncap) ns) from B1.own.nodes)
  have HRV := (show Hid (Sl .i64 w1 (.slice ra row.length rc) row) from B1.rw.sl)
  have HFT := (show Hid (∀ n ∈ ns, NodeFit n) from B1.fit)
  have HP0 := (show Hid (parOf ns 0 = -1) from B1.par0)
  have HBE := (show Hid (Below w0.heap.size w0 w1) from B1.bel)
  have hlen := B1.len
  have hrl := B1.rl
  have hnm := B1.nm
  clear B1
  obtain ⟨w2, hw2⟩ : ∃ w2, w2 = w1.alloc (.cells #[.slice na ns.length ncap] 26) := ⟨_, rfl⟩
  have b2 : Below w1.heap.size w1 w2 := by rw [hw2]; exact (Below.refl _ _).alloc (Nat.le_refl _) _
  have gT2 : w2.heap[w1.heap.size]? = some (.cells #[.slice na ns.length ncap] 26 (0, 0)) := by rw [hw2]; exact World.alloc_heap_new _ _
  have HT2 := (show Hid _ from gT2)
  have HB2 := (show Hid (Below w0.heap.size w0 w2) from HBE.out.trans (b2.mono HBE.out.size))
  have HN2 := (show Hid (NodesAt w2 (.slice na ns.length ncap) ns) from HNA.out.below b2)
  have HR2 := (show Hid (Sl .i64 w2 (.slice ra row.length rc) row) from HRV.out.below b2)
  clear b2 gT2 HNA HRV HBE
  have cT : ∀ W, Below w2.heap.size w2 W → W.cell? ⟨w1.heap.size, 0, none⟩ = some (.slice na ns.length ncap) := fun W hb => by
    have := (hb.block _ (blk_lt HT2.out)).trans HT2.out
    simp only [World.cell?, this]; rfl
  have CT := (show Hid (∀ W, Below w2.heap.size w2 W → W.cell? ⟨w1.heap.size, 0, none⟩ = some (.slice na ns.length ncap)) from cT)
  have k2 := cT w2 (Below.refl _ _)
  clear cT
  go_upto_region 4 with fail
  rw [← hw2]
  clear hw2
  go_wp2_with fail
  go_at_call 15
  refine Calls.mono (iinScope_b HN2.out HFT.out (by omega) HR2.out (by omega) nm kind) ?_
  rintro e w3 ⟨r, rfl, hr, b3⟩
  have HRI := (show Hid _ from hr)
  have HB3 := (show Hid (Below w2.heap.size w2 w3) from b3)
  have k3 := CT.out w3 b3
  clear hr b3 k2
  go_wp2_with fail
  go_at_call 16
  refine Calls.mono (sinScope_any (HN2.out.below HB3.out) HFT.out (by omega) (HR2.out.below HB3.out) (by omega) nm kind) ?_
  rintro e w4 ⟨r4, rfl, hr4, b4⟩
  obtain rfl : r4 = r := Bool.eq_iff_iff.mpr ⟨fun h => HRI.out.mpr ⟨(okP_iff HP0.out).mp (hr4.mp h).1, (hr4.mp h).2⟩, fun h => hr4.mpr ⟨(okP_iff HP0.out).mpr (HRI.out.mp h).1, (HRI.out.mp h).2⟩⟩
  have HB4 := (show Hid (Below w2.heap.size w2 w4) from HB3.out.trans (b4.mono HB3.out.size))
  have k4 := CT.out w4 HB4.out
  clear hr4 b4 k3 HB3
  go_wp2_with fail
  go_at_call 11
  refine Calls.mono (sstackOk_any (HN2.out.below HB4.out) HFT.out (by omega) (HR2.out.below HB4.out) (by omega)) ?_
  rintro e w5 ⟨ok, rfl, hok, b5⟩
  have HB5 := (show Hid (Below w2.heap.size w2 w5) from HB4.out.trans (b5.mono HB4.out.size))
  have k5 := CT.out w5 HB5.out
  clear b5 k4 HB4
  cases ok
  · have HNO : Hid (¬ (TreeOkP ns ∧ RowP ns row)) := fun h => by have := hok.mpr ((okP_iff HP0.out).mpr h); cases this
    obtain rfl : r4 = false := by
      cases r4 with
      | false => rfl
      | true => exact absurd (HRI.out.mp rfl).1 HNO.out
    clear hok
    go_wp2
    go_ret
    exact ⟨rfl, HB2.out.trans (HB5.out.mono HB2.out.size)⟩
  have HOK : Hid (TreeOkP ns ∧ RowP ns row) := (okP_iff HP0.out).mp (hok.mp rfl)
  clear hok
  have HSN := (show Hid (Sv 2 w2 (.slice none 0 0) (pairCells [])) from ⟨none, 0, 0, rfl, rfl, Nat.le_refl _, by decide, (fun _ => rfl), fun i hi => absurd hi (Nat.not_lt_zero _)⟩)
  have HTA := (show Hid (TreeOkP (ns ++ [⟨3, tableB, [], ⟨#[]⟩, -1, []⟩])) from tree_snoc HOK.out.1 rfl rfl (by decide) table_good (by omega))
  obtain ⟨ii, hii, hzi0, hzi1, hzi2⟩ := info_parts Tryz.infoIntRow
  cases r4
  rotate_left
  · have HSC := (show Hid _ from (HRI.out.mp rfl).2)
    have HLE := (show Hid _ from scope_all HSC.out.2)
    clear HRI
    go_wp2_with fail
    go_at_call 10
    refine Calls.mono (iopenAt_any (HN2.out.below HB5.out) HFT.out (by omega) (HR2.out.below HB5.out) (by omega) nm) ?_
    rintro e w51 ⟨pl, rfl, ⟨hp1, j1⟩, b51⟩
    clear j1
    have hpl := hp1 HOK.out
    obtain ⟨pn, rfl⟩ : ∃ m : Nat, pl = (m : Int) := ⟨lastAt (named ns nm) row row.length - 1, by have := HLE.out.2; omega⟩
    have HB51 := (show Hid (Below w2.heap.size w2 w51) from HB5.out.trans (b51.mono HB5.out.size))
    have k51 := CT.out w51 HB51.out
    clear hp1 hpl b51 k5 HB5
    go_wp2_with fail
    go_at_call 15
    refine Calls.mono (iinScope_b (HN2.out.below HB51.out) HFT.out (by omega) (HR2.out.below HB51.out) (by omega) nm 1) ?_
    rintro e w6 ⟨r6, rfl, hr6, b6⟩
    obtain rfl : r6 = true := hr6.mpr ⟨HOK.out, ⟨by decide, by decide⟩, HLE.out.1⟩
    have HB6 := (show Hid (Below w2.heap.size w2 w6) from HB51.out.trans (b6.mono HB51.out.size))
    have k6 := CT.out w6 HB6.out
    clear hr6 b6 k51 HB51 HSC HLE
    go_wp2_with fail
    go_at_call 17
    refine Calls.mono (itreeAdd_any (HN2.out.below HB6.out) HFT.out HOK.out.1 (nm := tableB) (HSN.out.below HB6.out) (by simp) table_fit) ?_
    rintro e w7 ⟨v7, k7, rfl, hh1, hh2, b7⟩
    obtain ⟨rfl, hn7⟩ := hh1 HTA.out
    clear hh1 hh2 k6
    have HB7 := (show Hid (Below w2.heap.size w2 w7) from HB6.out.trans (b7.mono HB6.out.size))
    have hn7l : (ns ++ [(⟨3, tableB, [], ⟨#[]⟩, -1, []⟩ : PNode)]).length = ns.length + 1 := by simp
    obtain ⟨a7, c7, rfl⟩ : ∃ a c, v7 = .slice a (ns.length + 1) c := by obtain ⟨a, c, e, _⟩ := hn7.slice; exact ⟨a, c, by rw [e, hn7l]⟩
    clear hn7l b7
    obtain ⟨w8, hw8⟩ : ∃ x, x = w7.alloc (.cells #[.slice a7 (ns.length + 1) c7] 26) := ⟨_, rfl⟩
    have b8 : Below w7.heap.size w7 w8 := by rw [hw8]; exact (Below.refl _ _).alloc (Nat.le_refl _) _
    have g8 : w8.heap[w7.heap.size]? = some (.cells #[.slice a7 (ns.length + 1) c7] 26 (0, 0)) := by rw [hw8]; exact World.alloc_heap_new _ _
    have HG8 := (show Hid _ from g8)
    have HN8 := (show Hid (NodesAt w8 (.slice a7 (ns.length + 1) c7) (ns ++ [⟨3, tableB, [], ⟨#[]⟩, -1, []⟩])) from hn7.below b8)
    have HB8 := (show Hid (Below w2.heap.size w2 w8) from HB7.out.trans (b8.mono HB7.out.size))
    clear g8 hn7 HB6 HB7 b8
    by_cases h40 : row.length = 40
    · have h40i : (row.length : Int) = 40 := by omega
      go_wp2
      rw [← hw8]
      go_ret
      exact ⟨rfl, HB2.out.trans (HB8.out.mono HB2.out.size)⟩
    have h40i : ¬ (row.length : Int) = 40 := by omega
    have hr40 : row.length < 40 := by have := HOK.out.2.len; omega
    go_upto_region 14 with fail
    · rw [← hw8]
      go_ret
      exact ⟨rfl, HB2.out.trans (HB8.out.mono HB2.out.size)⟩
    rw [← hw8]
    have HRP := (show Hid (RowP (ns ++ [⟨3, tableB, [], ⟨#[]⟩, -1, []⟩]) (row ++ [(ns.length : Int)])) from row_snoc HOK.out.2 rfl hr40)
    have HFA : Hid (∀ n ∈ ns ++ [(⟨3, tableB, [], ⟨#[]⟩, -1, []⟩ : PNode)], NodeFit n) := (fun n hn => by
      rcases List.mem_append.mp hn with hn | hn
      · exact HFT.out n hn
      · simp only [List.mem_cons, List.not_mem_nil, or_false] at hn
        subst hn
        exact table_fit)
    have bs8 := HB8.out.size
    have o81 : Own w8.heap.size 3 .i64 (w8.alloc (.cells #[] 3)) (.slice (some ⟨w8.heap.size, 0, none⟩) 0 0) [] := own_empty _ _ _
    have b81 : Below w8.heap.size w8 (w8.alloc (.cells #[] 3)) := (Below.refl _ _).alloc (Nat.le_refl _) _
    have hr81 := (HR2.out.below HB8.out).below b81
    have B81 := (show Hid _ from b81)
    clear hw8 h40i b81
    go_wp2_with (first
      | (at_builtin
         refine wpList_app _ rfl (.tmp 66) (.tmp 67) 27 rfl w8.heap.size 3 ii (.int .i64 0) 8 Tryz.underlying27 hii hzi0 hzi1 hzi2 rfl .i64 (.slice (some ⟨w8.heap.size, 0, none⟩) 0 0) (.slice ra row.length rc) [] row rfl rfl o81 hr81 (by simp; omega) (by unfold maxLen; simp; omega) (by simp) ?_
         intro v9 w9 o9 g9
         rw [List.nil_append] at o9
         have b9 : Below w8.heap.size w8 w9 := B81.out.grown g9 (by simp) (fun r e => by cases e; exact Nat.le_refl _)
         obtain ⟨a9, n9, c9, rfl⟩ := own_slice o9
         have b91 : Below w9.heap.size w9 (w9.alloc (.cells #[.int .i64 ns.length] 3)) := (Below.refl _ _).alloc (Nat.le_refl _) _
         have o91 := Own.below o9 b91
         have h91 := sl_lit1 w9 ns.length 3
         have B9 := (show Hid (Below w8.heap.size w8 w9) from b9)
         have B91 := (show Hid _ from b91)
         have bs9 := b9.size
         clear o9 g9 o81 hr81 b9 b91)
      | (at_builtin
         refine wpList_app _ rfl (.tmp 68) (.tmp 70) 27 rfl w8.heap.size 3 ii (.int .i64 0) 8 Tryz.underlying27 hii hzi0 hzi1 hzi2 rfl .i64 (.slice a9 n9 c9) (.slice (some ⟨w9.heap.size, 0, none⟩) 1 1) row [(ns.length : Int)] rfl rfl o91 h91 (by simp; omega) (by unfold maxLen; simp; omega) (by simp; omega) ?_
         intro v10 w10 o10 g10
         have b9x : Below w8.heap.size w8 (w9.alloc (.cells #[.int .i64 ns.length] 3)) := B9.out.trans (B91.out.mono bs9)
         have b10 : Below w8.heap.size w8 w10 := b9x.grown g10 b9x.size (fun r e => (o91.lt r e).1)
         have g810 := (b10.block _ (lt_of_block HG8.out)).trans HG8.out
         obtain ⟨k10, j10⟩ := one_cell g810
         have s10 := o10.sl
         obtain ⟨a10, c10, rfl, j1, j2, j3, j4⟩ := s10
         rw [List.length_append, List.length_singleton] at o10 ⊢
         have HS10 := (show Hid (Sl .i64 w10 (.slice a10 (row.length + 1) c10) (row ++ [(ns.length : Int)])) from o10.sl)
         have B10 := (show Hid (Below w8.heap.size w8 w10) from b10)
         clear o10 g10 b9x b10 g810 o91 h91 j1 j2 j3 j4 j10))
    go_at_call 15
    have HL10 : Hid ((ns ++ [(⟨3, tableB, [], ⟨#[]⟩, -1, []⟩ : PNode)]).length ≤ 1048576 ∧ (row ++ [(ns.length : Int)]).length ≤ 1048576) := ⟨by simp; omega, by simp; omega⟩
    have HN10 := (show Hid (NodesAt w10 (.slice a7 (ns.length + 1) c7) (ns ++ [⟨3, tableB, [], ⟨#[]⟩, -1, []⟩])) from HN8.out.below B10.out)
    refine Calls.mono (iinScope_b HN10.out HFA.out HL10.out.1 HS10.out HL10.out.2 nm 1) ?_
    rintro e w11 ⟨r11, rfl, hr11, b11⟩
    rw [scope_snoc (nd := ⟨3, tableB, [], ⟨#[]⟩, -1, []⟩) rfl nm] at hr11
    have B11 := (show Hid (Below w8.heap.size w8 w11) from B10.out.trans (b11.mono B10.out.size))
    have HF := (show Hid (Below w0.heap.size w0 w11) from (HB2.out.trans (HB8.out.mono HB2.out.size)).trans (B11.out.mono (Nat.le_trans HB2.out.size HB8.out.size)))
    have g811 := (B11.out.block _ (lt_of_block HG8.out)).trans HG8.out
    obtain ⟨k11, j11⟩ := one_cell g811
    have HS11 := (show Hid (Sl .i64 w11 (.slice a10 (row.length + 1) c10) (row ++ [(ns.length : Int)])) from HS10.out.below b11)
    have HN11 := (show Hid (NodesAt w11 (.slice a7 (ns.length + 1) c7) (ns ++ [⟨3, tableB, [], ⟨#[]⟩, -1, []⟩])) from HN10.out.below b11)
    clear g811 j11 b11 k10 HS10 HN10
    by_cases hq : tableB = nm
    · obtain rfl : r11 = true := hr11.mpr ⟨⟨HTA.out, HRP.out⟩, ⟨by decide, by decide⟩, decide_eq_true hq⟩
      clear hr11
      subst hq
      unfold tableB
      go_wp2
      go_ret
      exact ⟨rfl, HF.out⟩
    · obtain rfl : r11 = false := by
        cases r11 with
        | false => rfl
        | true => exact absurd (of_decide_eq_true (hr11.mp rfl).2.2) hq
      clear hr11 hq
      go_wp2_with fail
      go_at_call 15
      refine Calls.mono (iinScope_b HN11.out HFA.out HL10.out.1 HS11.out HL10.out.2 ⟨#[116, 97, 98, 108, 101]⟩ 1) ?_
      rintro e w12 ⟨r12, rfl, hr12, b12⟩
      obtain rfl : r12 = true := hr12.mpr ⟨⟨HTA.out, HRP.out⟩, ⟨by decide, by decide⟩, scope_table row rfl⟩
      have HF12 := (show Hid (Below w0.heap.size w0 w12) from HF.out.trans (b12.mono HF.out.size))
      clear hr12 b12
      go_wp2
      go_ret
      exact ⟨rfl, HF12.out⟩
  · obtain ⟨w6, rfl⟩ : ∃ x, w5 = x := ⟨w5, rfl⟩
    have k6 := k5
    have HB6 := HB5
    clear HRI k5 HB5
    go_wp2_with fail
    go_at_call 17
    refine Calls.mono (itreeAdd_any (HN2.out.below HB6.out) HFT.out HOK.out.1 (nm := tableB) (HSN.out.below HB6.out) (by simp) table_fit) ?_
    rintro e w7 ⟨v7, k7, rfl, hh1, hh2, b7⟩
    obtain ⟨rfl, hn7⟩ := hh1 HTA.out
    clear hh1 hh2 k6
    have HB7 := (show Hid (Below w2.heap.size w2 w7) from HB6.out.trans (b7.mono HB6.out.size))
    have hn7l : (ns ++ [(⟨3, tableB, [], ⟨#[]⟩, -1, []⟩ : PNode)]).length = ns.length + 1 := by simp
    obtain ⟨a7, c7, rfl⟩ : ∃ a c, v7 = .slice a (ns.length + 1) c := by obtain ⟨a, c, e, _⟩ := hn7.slice; exact ⟨a, c, by rw [e, hn7l]⟩
    clear hn7l b7
    obtain ⟨w8, hw8⟩ : ∃ x, x = w7.alloc (.cells #[.slice a7 (ns.length + 1) c7] 26) := ⟨_, rfl⟩
    have b8 : Below w7.heap.size w7 w8 := by rw [hw8]; exact (Below.refl _ _).alloc (Nat.le_refl _) _
    have g8 : w8.heap[w7.heap.size]? = some (.cells #[.slice a7 (ns.length + 1) c7] 26 (0, 0)) := by rw [hw8]; exact World.alloc_heap_new _ _
    have HG8 := (show Hid _ from g8)
    have HN8 := (show Hid (NodesAt w8 (.slice a7 (ns.length + 1) c7) (ns ++ [⟨3, tableB, [], ⟨#[]⟩, -1, []⟩])) from hn7.below b8)
    have HB8 := (show Hid (Below w2.heap.size w2 w8) from HB7.out.trans (b8.mono HB7.out.size))
    clear g8 hn7 HB6 HB7 b8
    by_cases h40 : row.length = 40
    · have h40i : (row.length : Int) = 40 := by omega
      go_wp2
      rw [← hw8]
      go_ret
      exact ⟨rfl, HB2.out.trans (HB8.out.mono HB2.out.size)⟩
    have h40i : ¬ (row.length : Int) = 40 := by omega
    have hr40 : row.length < 40 := by have := HOK.out.2.len; omega
    go_upto_region 14 with fail
    · rw [← hw8]
      go_ret
      exact ⟨rfl, HB2.out.trans (HB8.out.mono HB2.out.size)⟩
    rw [← hw8]
    have HRP := (show Hid (RowP (ns ++ [⟨3, tableB, [], ⟨#[]⟩, -1, []⟩]) (row ++ [(ns.length : Int)])) from row_snoc HOK.out.2 rfl hr40)
    have HFA : Hid (∀ n ∈ ns ++ [(⟨3, tableB, [], ⟨#[]⟩, -1, []⟩ : PNode)], NodeFit n) := (fun n hn => by
      rcases List.mem_append.mp hn with hn | hn
      · exact HFT.out n hn
      · simp only [List.mem_cons, List.not_mem_nil, or_false] at hn
        subst hn
        exact table_fit)
    have bs8 := HB8.out.size
    have o81 : Own w8.heap.size 3 .i64 (w8.alloc (.cells #[] 3)) (.slice (some ⟨w8.heap.size, 0, none⟩) 0 0) [] := own_empty _ _ _
    have b81 : Below w8.heap.size w8 (w8.alloc (.cells #[] 3)) := (Below.refl _ _).alloc (Nat.le_refl _) _
    have hr81 := (HR2.out.below HB8.out).below b81
    have B81 := (show Hid _ from b81)
    clear hw8 h40i b81
    go_wp2_with (first
      | (at_builtin
         refine wpList_app _ rfl (.tmp 66) (.tmp 67) 27 rfl w8.heap.size 3 ii (.int .i64 0) 8 Tryz.underlying27 hii hzi0 hzi1 hzi2 rfl .i64 (.slice (some ⟨w8.heap.size, 0, none⟩) 0 0) (.slice ra row.length rc) [] row rfl rfl o81 hr81 (by simp; omega) (by unfold maxLen; simp; omega) (by simp) ?_
         intro v9 w9 o9 g9
         rw [List.nil_append] at o9
         have b9 : Below w8.heap.size w8 w9 := B81.out.grown g9 (by simp) (fun r e => by cases e; exact Nat.le_refl _)
         obtain ⟨a9, n9, c9, rfl⟩ := own_slice o9
         have b91 : Below w9.heap.size w9 (w9.alloc (.cells #[.int .i64 ns.length] 3)) := (Below.refl _ _).alloc (Nat.le_refl _) _
         have o91 := Own.below o9 b91
         have h91 := sl_lit1 w9 ns.length 3
         have B9 := (show Hid (Below w8.heap.size w8 w9) from b9)
         have B91 := (show Hid _ from b91)
         have bs9 := b9.size
         clear o9 g9 o81 hr81 b9 b91)
      | (at_builtin
         refine wpList_app _ rfl (.tmp 68) (.tmp 70) 27 rfl w8.heap.size 3 ii (.int .i64 0) 8 Tryz.underlying27 hii hzi0 hzi1 hzi2 rfl .i64 (.slice a9 n9 c9) (.slice (some ⟨w9.heap.size, 0, none⟩) 1 1) row [(ns.length : Int)] rfl rfl o91 h91 (by simp; omega) (by unfold maxLen; simp; omega) (by simp; omega) ?_
         intro v10 w10 o10 g10
         have b9x : Below w8.heap.size w8 (w9.alloc (.cells #[.int .i64 ns.length] 3)) := B9.out.trans (B91.out.mono bs9)
         have b10 : Below w8.heap.size w8 w10 := b9x.grown g10 b9x.size (fun r e => (o91.lt r e).1)
         have g810 := (b10.block _ (lt_of_block HG8.out)).trans HG8.out
         obtain ⟨k10, j10⟩ := one_cell g810
         have s10 := o10.sl
         obtain ⟨a10, c10, rfl, j1, j2, j3, j4⟩ := s10
         rw [List.length_append, List.length_singleton] at o10 ⊢
         have HS10 := (show Hid (Sl .i64 w10 (.slice a10 (row.length + 1) c10) (row ++ [(ns.length : Int)])) from o10.sl)
         have B10 := (show Hid (Below w8.heap.size w8 w10) from b10)
         clear o10 g10 b9x b10 g810 o91 h91 j1 j2 j3 j4 j10))
    go_at_call 15
    have HL10 : Hid ((ns ++ [(⟨3, tableB, [], ⟨#[]⟩, -1, []⟩ : PNode)]).length ≤ 1048576 ∧ (row ++ [(ns.length : Int)]).length ≤ 1048576) := ⟨by simp; omega, by simp; omega⟩
    have HN10 := (show Hid (NodesAt w10 (.slice a7 (ns.length + 1) c7) (ns ++ [⟨3, tableB, [], ⟨#[]⟩, -1, []⟩])) from HN8.out.below B10.out)
    refine Calls.mono (iinScope_b HN10.out HFA.out HL10.out.1 HS10.out HL10.out.2 nm 1) ?_
    rintro e w11 ⟨r11, rfl, hr11, b11⟩
    rw [scope_snoc (nd := ⟨3, tableB, [], ⟨#[]⟩, -1, []⟩) rfl nm] at hr11
    have B11 := (show Hid (Below w8.heap.size w8 w11) from B10.out.trans (b11.mono B10.out.size))
    have HF := (show Hid (Below w0.heap.size w0 w11) from (HB2.out.trans (HB8.out.mono HB2.out.size)).trans (B11.out.mono (Nat.le_trans HB2.out.size HB8.out.size)))
    have g811 := (B11.out.block _ (lt_of_block HG8.out)).trans HG8.out
    obtain ⟨k11, j11⟩ := one_cell g811
    have HS11 := (show Hid (Sl .i64 w11 (.slice a10 (row.length + 1) c10) (row ++ [(ns.length : Int)])) from HS10.out.below b11)
    have HN11 := (show Hid (NodesAt w11 (.slice a7 (ns.length + 1) c7) (ns ++ [⟨3, tableB, [], ⟨#[]⟩, -1, []⟩])) from HN10.out.below b11)
    clear g811 j11 b11 k10 HS10 HN10
    by_cases hq : tableB = nm
    · obtain rfl : r11 = true := hr11.mpr ⟨⟨HTA.out, HRP.out⟩, ⟨by decide, by decide⟩, decide_eq_true hq⟩
      clear hr11
      subst hq
      unfold tableB
      go_wp2
      go_ret
      exact ⟨rfl, HF.out⟩
    · obtain rfl : r11 = false := by
        cases r11 with
        | false => rfl
        | true => exact absurd (of_decide_eq_true (hr11.mp rfl).2.2) hq
      clear hr11 hq
      go_wp2_with fail
      go_at_call 15
      refine Calls.mono (iinScope_b HN11.out HFA.out HL10.out.1 HS11.out HL10.out.2 ⟨#[116, 97, 98, 108, 101]⟩ 1) ?_
      rintro e w12 ⟨r12, rfl, hr12, b12⟩
      obtain rfl : r12 = true := hr12.mpr ⟨⟨HTA.out, HRP.out⟩, ⟨by decide, by decide⟩, scope_table row rfl⟩
      have HF12 := (show Hid (Below w0.heap.size w0 w12) from HF.out.trans (b12.mono HF.out.size))
      clear hr12 b12
      go_wp2
      go_ret
      exact ⟨rfl, HF12.out⟩
end Go.Proofs.YtkljadaggnbjkaaGreat
