/- The program's TreeHang and TreeTake. No condition. -/
import Derived.Test.YtogdbjafibejdaaGreatU37
import Derived.Test.YtogdbjafibejdaaGreatU24
import Derived.Test.YtogdbjafibejdaaGreatU29
import Derived.Test.YtogdbjafibejdaaGreatU17
import Derived.Test.YtogdbjafibejdaaGreatU23
import Derived.Test.YtogdbjafibejdaaGreatU28
namespace Go.Proofs.YtogdbjafibejdaaGreat
open Go.RowKit
set_option maxRecDepth 100000
set_option linter.unusedVariables false

theorem par_ok {ns : List PNode} (h : TreeOkP ns) {i : Nat} (hi : i < ns.length) : parOf ns i = -1 ∨ ∃ p : Nat, parOf ns i = p ∧ p < ns.length := by
  obtain ⟨d, hd⟩ := h.linked i hi
  cases d with
  | zero => exact .inl hd.2
  | succ d =>
    obtain ⟨p, hp, hk⟩ := hd
    obtain ⟨h1, h2, h3, h4⟩ := fit_kid h.fit hk
    exact .inr ⟨p, by simpa using h4, h1⟩

set_option maxRecDepth 100000 in
theorem ihang_all {B a g cap : Nat} {w : World} {qs : List (PNode × (Value × Value))} (ha : w.heap[a]? = some (.cells #[.slice (some ⟨g, 0, none⟩) qs.length cap] 77 (0, 0))) (hO : OwnQ B w (.slice (some ⟨g, 0, none⟩) qs.length cap) qs) (hA : Apart qs) (hB : B ≤ w.heap.size) (hlen : qs.length ≤ 100000)
    (hp : ∀ i (hi : i < qs.length), qs[i].1.parent = -1 ∨ ∃ p : Nat, qs[i].1.parent = p ∧ p < qs.length) (hkl : ∀ q ∈ qs, q.1.kids.length ≤ 1048576) (c p : Int) :
    Calls Tryz.prog 50 #[.pointer (some ⟨a, 0, none⟩), .int .i64 c, .int .i64 p] w fun e w' => ∃ r : Bool, e = .returned (.bool r) ∧ (r = true ↔ c ≠ 0 ∧ (0 ≤ c ∧ c < qs.length) ∧ (0 ≤ p ∧ p < qs.length)) ∧ (r = true → ∃ qs', qs'.map (fun q => q.1) = hangN (qs.map (fun q => q.1)) c.toNat p.toNat ∧ OwnQ B w' (.slice (some ⟨g, 0, none⟩) qs.length cap) qs') ∧ TurnQ g qs w w' := by
  by_cases h1 : c = 0 ∨ ¬ (0 ≤ c ∧ c < qs.length)
  · refine (ihang_no ha h1).mono ?_
    rintro e w' ⟨rfl, rfl⟩
    exact ⟨false, rfl, ⟨(fun h => by cases h), fun h => by rcases h1 with h1 | h1; exact absurd h1 h.1; exact absurd h.2.1 h1⟩, (fun h => by cases h), ⟨rfl, rfl, rfl, Nat.le_refl _, fun _ _ _ _ => rfl⟩⟩
  · have hc : c ≠ 0 ∧ 0 ≤ c ∧ c < qs.length := by omega
    obtain ⟨k, rfl⟩ : ∃ k : Nat, c = (k : Int) := ⟨c.toNat, by omega⟩
    by_cases h2 : 0 ≤ p ∧ p < qs.length
    · obtain ⟨m, rfl⟩ : ∃ m : Nat, p = (m : Int) := ⟨p.toNat, by omega⟩
      refine (ihang_any ha hO hA hB hlen (c := k) (by omega) (by omega) (hp k (by omega)) hkl (p := m) (by omega)).mono ?_
      rintro e w' ⟨rfl, ⟨qs', m1, o1, _⟩, t⟩
      exact ⟨true, rfl, ⟨fun _ => ⟨hc.1, hc.2, h2⟩, fun _ => rfl⟩, fun _ => ⟨qs', by simpa using m1, o1⟩, t⟩
    · refine (ihang_far ha hO hA hB hlen (c := k) (by omega) (by omega) (hp k (by omega)) hkl h2).mono ?_
      rintro e w' ⟨rfl, t⟩
      exact ⟨false, rfl, ⟨(fun h => by cases h), fun h => absurd h.2.2 h2⟩, (fun h => by cases h), t⟩
theorem itake_all {B a g cap : Nat} {w : World} {qs : List (PNode × (Value × Value))} (ha : w.heap[a]? = some (.cells #[.slice (some ⟨g, 0, none⟩) qs.length cap] 77 (0, 0))) (hO : OwnQ B w (.slice (some ⟨g, 0, none⟩) qs.length cap) qs) (hA : Apart qs) (hB : B ≤ w.heap.size) (hlen : qs.length ≤ 100000)
    (hp : ∀ i (hi : i < qs.length), qs[i].1.parent = -1 ∨ ∃ p : Nat, qs[i].1.parent = p ∧ p < qs.length) (hkl : ∀ q ∈ qs, q.1.kids.length ≤ 1048576) (c : Int) :
    Calls Tryz.prog 65 #[.pointer (some ⟨a, 0, none⟩), .int .i64 c] w fun e w' => ∃ r : Bool, e = .returned (.bool r) ∧ (r = true ↔ c ≠ 0 ∧ (0 ≤ c ∧ c < qs.length)) ∧ (r = true → ∃ qs', qs'.map (fun q => q.1) = takeN (qs.map (fun q => q.1)) c.toNat ∧ OwnQ B w' (.slice (some ⟨g, 0, none⟩) qs.length cap) qs') ∧ TurnQ g qs w w' := by
  by_cases h1 : c = 0 ∨ ¬ (0 ≤ c ∧ c < qs.length)
  · refine (itake_no ha h1).mono ?_
    rintro e w' ⟨rfl, rfl⟩
    exact ⟨false, rfl, ⟨(fun h => by cases h), fun h => by rcases h1 with h1 | h1; exact absurd h1 h.1; exact absurd h.2 h1⟩, (fun h => by cases h), ⟨rfl, rfl, rfl, Nat.le_refl _, fun _ _ _ _ => rfl⟩⟩
  · have hc : c ≠ 0 ∧ 0 ≤ c ∧ c < qs.length := by omega
    obtain ⟨k, rfl⟩ : ∃ k : Nat, c = (k : Int) := ⟨c.toNat, by omega⟩
    refine (itake_any ha hO hA hB hlen (c := k) (by omega) (by omega) (hp k (by omega)) hkl).mono ?_
    rintro e w' ⟨rfl, ⟨qs', m1, o1, _, _⟩, t⟩
    exact ⟨true, rfl, ⟨fun _ => hc, fun _ => rfl⟩, fun _ => ⟨qs', by simpa using m1, o1⟩, TurnQ.of_row t⟩

set_option maxHeartbeats 800000 in
set_option maxRecDepth 100000 in
theorem istepHang {B a g cap A C D : Nat} {w : World} {qs : List (PNode × (Value × Value))} (ha : w.heap[a]? = some (.cells #[.slice (some ⟨g, 0, none⟩) qs.length cap] 77 (0, 0))) (hO : OwnQ B w (.slice (some ⟨g, 0, none⟩) qs.length cap) qs) (hA : Apart qs) (hB : B ≤ w.heap.size) (hlen : qs.length ≤ 100000)
    (hp : ∀ i (hi : i < qs.length), qs[i].1.parent = -1 ∨ ∃ p : Nat, qs[i].1.parent = p ∧ p < qs.length) (hkl : ∀ q ∈ qs, q.1.kids.length ≤ 1048576) (c p : Int)
    (gA : w.heap[A]? = some (.cells #[.pointer (some ⟨a, 0, none⟩)] 64 (0, 0))) (gC : w.heap[C]? = some (.cells #[.int .i64 c] 3 (0, 0))) (gD : w.heap[D]? = some (.cells #[.int .i64 p] 3 (0, 0))) :
    Calls Tryz.prog 49 #[.pointer (some ⟨A, 0, none⟩), .pointer (some ⟨C, 0, none⟩), .pointer (some ⟨D, 0, none⟩)] w fun e w' => ∃ r : Bool, e = .returned (.bool r) ∧ (r = true ↔ c ≠ 0 ∧ (0 ≤ c ∧ c < qs.length) ∧ (0 ≤ p ∧ p < qs.length)) ∧ (r = true → ∃ qs', qs'.map (fun q => q.1) = hangN (qs.map (fun q => q.1)) c.toNat p.toNat ∧ OwnQ B w' (.slice (some ⟨g, 0, none⟩) qs.length cap) qs') ∧ TurnQ g qs w w' := by
  have CC := (show Hid _ from ihang_all ha hO hA hB hlen hp hkl c p)
  obtain ⟨cA, _⟩ := one_cell gA
  obtain ⟨cC, _⟩ := one_cell gC
  obtain ⟨cD, _⟩ := one_cell gD
  clear ha hO hA hp hkl gA gC gD
  go_enter Tryz.func49, Tryz.ntmps49
  go_wp2_with fail
  go_at_call 50
  refine Calls.mono CC.out ?_
  rintro e w' ⟨r, rfl, h1, h2, h3⟩
  have H1 := (show Hid _ from h1)
  have H2 := (show Hid (r = true → ∃ qs', qs'.map (fun q => q.1) = hangN (qs.map (fun q => q.1)) c.toNat p.toNat ∧ OwnQ B w' (.slice (some ⟨g, 0, none⟩) qs.length cap) qs') from h2)
  clear CC h1 h2
  go_wp2
  go_ret
  exact ⟨r, rfl, H1.out, H2.out, h3⟩

set_option maxHeartbeats 800000 in
set_option maxRecDepth 100000 in
theorem istepTake {B a g cap A C : Nat} {w : World} {qs : List (PNode × (Value × Value))} (ha : w.heap[a]? = some (.cells #[.slice (some ⟨g, 0, none⟩) qs.length cap] 77 (0, 0))) (hO : OwnQ B w (.slice (some ⟨g, 0, none⟩) qs.length cap) qs) (hA : Apart qs) (hB : B ≤ w.heap.size) (hlen : qs.length ≤ 100000)
    (hp : ∀ i (hi : i < qs.length), qs[i].1.parent = -1 ∨ ∃ p : Nat, qs[i].1.parent = p ∧ p < qs.length) (hkl : ∀ q ∈ qs, q.1.kids.length ≤ 1048576) (c : Int)
    (gA : w.heap[A]? = some (.cells #[.pointer (some ⟨a, 0, none⟩)] 64 (0, 0))) (gC : w.heap[C]? = some (.cells #[.int .i64 c] 3 (0, 0))) :
    Calls Tryz.prog 64 #[.pointer (some ⟨A, 0, none⟩), .pointer (some ⟨C, 0, none⟩)] w fun e w' => ∃ r : Bool, e = .returned (.bool r) ∧ (r = true ↔ c ≠ 0 ∧ (0 ≤ c ∧ c < qs.length)) ∧ (r = true → ∃ qs', qs'.map (fun q => q.1) = takeN (qs.map (fun q => q.1)) c.toNat ∧ OwnQ B w' (.slice (some ⟨g, 0, none⟩) qs.length cap) qs') ∧ TurnQ g qs w w' := by
  have CC := (show Hid _ from itake_all ha hO hA hB hlen hp hkl c)
  obtain ⟨cA, _⟩ := one_cell gA
  obtain ⟨cC, _⟩ := one_cell gC
  clear ha hO hA hp hkl gA gC
  go_enter Tryz.func64, Tryz.ntmps64
  go_wp2_with fail
  go_at_call 65
  refine Calls.mono CC.out ?_
  rintro e w' ⟨r, rfl, h1, h2, h3⟩
  have H1 := (show Hid _ from h1)
  have H2 := (show Hid (r = true → ∃ qs', qs'.map (fun q => q.1) = takeN (qs.map (fun q => q.1)) c.toNat ∧ OwnQ B w' (.slice (some ⟨g, 0, none⟩) qs.length cap) qs') from h2)
  clear CC h1 h2
  go_wp2
  go_ret
  exact ⟨r, rfl, H1.out, H2.out, h3⟩

theorem hangN_fit {ns : List PNode} {c p : Nat} (h : ∀ n ∈ ns, NodeFit n ∧ n.kids.length ≤ 1000000) : ∀ n ∈ hangN ns c p, NodeFit n :=
  hangN_all (P := fun n => NodeFit n ∧ n.kids.length ≤ 1000000) h (fun n x h => ⟨⟨h.1.nm, h.1.tx, h.1.rs, h.1.each, h.1.kl⟩, h.2⟩) (fun n x h => ⟨⟨h.1.nm, h.1.tx, h.1.rs, h.1.each, Nat.le_trans (lessL_len _ _) h.1.kl⟩, Nat.le_trans (lessL_len _ _) h.2⟩) (fun n h => h.1) (fun n x h => ⟨h.1.nm, h.1.tx, h.1.rs, h.1.each, by simp [setKids]; omega⟩)
theorem takeN_fit {ns : List PNode} {c : Nat} (h : ∀ n ∈ ns, NodeFit n) : ∀ n ∈ takeN ns c, NodeFit n := by
  have hc : ∀ n ∈ cutN ns c, NodeFit n := by
    intro n hn
    unfold cutN at hn
    split at hn
    · exact h n hn
    · rcases mem_modify hn with hn | ⟨m, hm, rfl⟩
      · exact h n hn
      · have := h m hm; exact ⟨this.nm, this.tx, this.rs, this.each, Nat.le_trans (lessL_len _ _) this.kl⟩
  intro n hn
  rcases mem_modify hn with hn | ⟨m, hm, rfl⟩
  · exact hc n hn
  · have := hc m hm; exact ⟨this.nm, this.tx, this.rs, this.each, this.kl⟩
/-- A node of a right tree has no more Kids than there are nodes. -/
theorem kids_few {ns : List PNode} (h : TreeOkP ns) : ∀ n ∈ ns, n.kids.length ≤ ns.length := by
  intro n hn
  obtain ⟨i, hi, rfl⟩ := List.getElem_of_mem hn
  have hf := h.fit i hi
  rw [kidsOf_at hi] at hf
  exact nodup_le _ _ hf.1 (fun x hx => by have := hf.2 x hx; omega)
end Go.Proofs.YtogdbjafibejdaaGreat

/- The specification's TreeHang: its bool, of every tree (written by mk/streehang.py). No condition. -/
namespace Go.Proofs.YtogdbjafibejdaaGreat
open Go.RowKit
set_option maxRecDepth 100000
set_option linter.unusedVariables false

set_option maxHeartbeats 800000 in
set_option maxRecDepth 100000 in
theorem sopens_b {w : World} {v : Value} {ns : List PNode} (hn : NodesAt w v ns) (hlen : ns.length ≤ 1048576) {p : Nat} (hp : p < ns.length) :
    Calls Tryz.prog 53 #[.agg #[v], .int .i64 (p : Int)] w fun e w' => e = .returned (.bool (opensB ns[p])) ∧ Below w.heap.size w w' := by
  obtain ⟨a, cap, rfl, hc1, hc2, hcs⟩ := hn.slice
  obtain ⟨b, off, av, kv, rfl, hblt, c0, _⟩ := hcs p hp
  have HE : Hid (∀ k : Int, k = ns[p].kind → opensB ns[p] = (decide (k = 1) || decide (k = 3))) := fun k h => by rw [h]; rfl
  obtain ⟨kk, hkk⟩ : ∃ kk, kk = ns[p].kind := ⟨_, rfl⟩
  have HK := (show Hid _ from HE.out kk hkk)
  rw [← hkk] at c0
  clear hcs hn hkk HE
  by_cases h1 : kk = 1
  · subst h1
    go_enter Tryz.func53, Tryz.ntmps53
    go_wp2
    go_ret
    exact ⟨by rw [HK.out]; rfl, (Below.refl _ _).alloc (Nat.le_refl _) _⟩
  · by_cases h3 : kk = 3
    · subst h3
      go_enter Tryz.func53, Tryz.ntmps53
      go_wp2
      go_ret
      exact ⟨by rw [HK.out]; rfl, (Below.refl _ _).alloc (Nat.le_refl _) _⟩
    · go_enter Tryz.func53, Tryz.ntmps53
      go_wp2
      go_ret
      exact ⟨by rw [HK.out]; simp [h1, h3], (Below.refl _ _).alloc (Nat.le_refl _) _⟩

/-- l6Take of any node of a right tree. -/
theorem stake_right {B : Nat} {w : World} {v : Value} {ns : List PNode} (hO : OwnN B w v ns) (hB : B ≤ w.heap.size) (ok : TreeOkP ns) {c : Nat} (hc : c < ns.length) :
    ∃ ms : List PNode, ms.length = ns.length ∧ (∀ p (h : p < ms.length), ms[p].kids.length ≤ 100000) ∧ Calls Tryz.prog 105 #[.agg #[v], .int .i64 c] w fun e w' => e = .returned (.agg #[v]) ∧ OwnN B w' v ms ∧ w.grownBy w' v.ownBlock := by
  have hm := ok.most
  have few : ∀ n ∈ ns, n.kids.length ≤ 100000 := fun n hn => by have := kids_few ok n hn; omega
  have hpc := parOf_at hc
  rcases par_ok ok hc with h | ⟨p, h, hp⟩
  · refine ⟨ns, rfl, fun p h => few _ (List.getElem_mem h), ?_⟩
    refine Calls.mono (stake_none hO.nodes (by omega) hc (by omega)) ?_
    rintro e w' ⟨rfl, b⟩
    refine ⟨rfl, hO.below b, ⟨b.os, b.tape, b.output, b.size, fun r hr _ => b.block r hr⟩⟩
  · refine ⟨parN (lessN ns c p) c (-1), by simp [parN, lessN], fun q hq => ?_, stake_all hO hB (by omega) hc hp (by omega) (few _ (List.getElem_mem hp))⟩
    have hq' : q < ns.length := by simpa [parN, lessN] using hq
    have h1 := few _ (List.getElem_mem hq')
    have h2 := lessL_len (c : Int) ns[q].kids
    simp only [parN, lessN, List.getElem_modify]
    split <;> split <;> simp <;> omega

/-- l6Hang of any node of a right tree: no panic. -/
theorem shang_right {B : Nat} {w : World} {v : Value} {ns : List PNode} (hO : OwnN B w v ns) (hB : B ≤ w.heap.size) (ok : TreeOkP ns) {c p : Nat} (hc : c < ns.length) (hp : p < ns.length) :
    Calls Tryz.prog 56 #[.agg #[v], .int .i64 c, .int .i64 p] w fun e w' => e = .returned (.agg #[v]) ∧ w.grownBy w' v.ownBlock := by
  have hm := ok.most
  have H : ∃ ms : List PNode, ms.length = ns.length ∧ (∀ p (h : p < ms.length), ms[p].kids.length ≤ 100000) ∧ ∀ W, Below w.heap.size w W → Calls Tryz.prog 105 #[.agg #[v], .int .i64 c] W fun e w' => e = .returned (.agg #[v]) ∧ OwnN B w' v ms ∧ W.grownBy w' v.ownBlock := by
    have few : ∀ n ∈ ns, n.kids.length ≤ 100000 := fun n hn => by have := kids_few ok n hn; omega
    have hpc := parOf_at hc
    rcases par_ok ok hc with h | ⟨q, h, hq⟩
    · refine ⟨ns, rfl, fun p h => few _ (List.getElem_mem h), fun W bW => ?_⟩
      refine Calls.mono (stake_none (hO.below bW).nodes (by omega) hc (by omega)) ?_
      rintro e w' ⟨rfl, b⟩
      exact ⟨rfl, (hO.below bW).below b, ⟨b.os, b.tape, b.output, b.size, fun r hr _ => b.block r hr⟩⟩
    · refine ⟨parN (lessN ns c q) c (-1), by simp [parN, lessN], fun i hi => ?_, fun W bW => stake_all (hO.below bW) (Nat.le_trans hB bW.size) (by omega) hc hq (by omega) (few _ (List.getElem_mem hq))⟩
      have hi' : i < ns.length := by simpa [parN, lessN] using hi
      have h1 := few _ (List.getElem_mem hi')
      have h2 := lessL_len (c : Int) ns[i].kids
      simp only [parN, lessN, List.getElem_modify]
      split <;> split <;> simp <;> omega
  obtain ⟨ms, h1, h2, h3⟩ := H
  refine Calls.mono (shang_all hO h1.symm hB (by omega) (c := c) (p := p) (by omega) (by omega) (h2 p (by omega)) h3) ?_
  rintro e w' ⟨rfl, _, hg⟩
  exact ⟨rfl, hg⟩

theorem STreeHang_res {tmps : Array Value} {w : World} {g : Nat} {u : Value} {i : Bool} (h4 : tmps.getD 6 undef = .pointer (some ⟨g, 0, none⟩)) (h5 : tmps.getD 7 undef = .bool i) (hb : w.heap[g]? = some (.cells #[u] 26 (0, 0))) :
    (results Tryz.f13 tmps).run Tryz.prog w = .ok (.tuple #[.agg #[u], .bool i]) w := by
  rw [results_cell_tmp (p := 6) (u := 7) (ty := 26) rfl, h4, h5]
  simp [asAddr, run_loadVar_row w g 26 26 #[u] (0, 0) _ hb Tryz.underlying26 rfl rfl, Result.andThen]

/-- When the specification hangs a node. -/
def HangB (ns : List PNode) (c p : Int) : Prop := STreeOkP ns ∧ (0 ≤ c ∧ c < ns.length) ∧ (0 ≤ p ∧ p < ns.length) ∧ c ≠ 0 ∧ (∃ h : p.toNat < ns.length, opensB ns[p.toNat] = true) ∧ ¬ ∃ d, belD ns c.toNat d p.toNat

set_option maxHeartbeats 2000000 in
set_option maxRecDepth 100000 in
theorem streeHang_any {w : World} {v : Value} {ns : List PNode} (hn : NodesAt w v ns) (hfit : ∀ n ∈ ns, NodeFit n) (hlen : ns.length ≤ 1048576) (c p : Int) :
    Calls Tryz.prog 13 #[.agg #[v], .int .i64 c, .int .i64 p] w fun e w' => ∃ (ua : Option Addr) (un uc : Nat) (r : Bool), e = .returned (.tuple #[.agg #[.slice ua un uc], .bool r]) ∧ (r = true ↔ HangB ns c p) ∧ Below w.heap.size w w' := by
  have HFIT := (show Hid (∀ n ∈ ns, NodeFit n) from hfit)
  have HN := (show Hid (NodesAt w v ns) from hn)
  obtain ⟨a, cap, rfl, hc1, hc2, hcs⟩ := hn.slice
  clear hcs hn hfit
  obtain ⟨w2, hw2⟩ : ∃ w2, w2 = (w.alloc (.cells #[.slice a ns.length cap] 26)).alloc (.cells #[.slice none 0 0] 26) := ⟨_, rfl⟩
  have b2 : Below w.heap.size w w2 := by rw [hw2]; exact ((Below.refl _ w).alloc (Nat.le_refl _) _).alloc (by simp) _
  have gT2 : w2.heap[w.heap.size]? = some (.cells #[.slice a ns.length cap] 26 (0, 0)) := by
    rw [hw2, Below.heap_alloc _ _ _ (by simp)]; exact World.alloc_heap_new _ _
  have gR2 : w2.heap[w.heap.size + 1]? = some (.cells #[.slice none 0 0] 26 (0, 0)) := by
    rw [hw2]
    have := World.alloc_heap_new (w.alloc (.cells #[.slice a ns.length cap] 26)) (.cells #[.slice none 0 0] 26)
    rwa [World.size_alloc] at this
  have GT2 := (show Hid _ from gT2)
  have GR2 := (show Hid _ from gR2)
  have cT2 := (one_cell gT2).1
  have cR2 := (one_cell gR2).1
  have zR2 := (one_cell gR2).2
  have BW2 := (show Hid (Below w.heap.size w w2) from b2)
  have CO : Hid (∀ W, Below w.heap.size w W → Calls Tryz.prog 14 #[.agg #[.slice a ns.length cap]] W fun e w' => ∃ r, e = .returned (.bool r) ∧ (r = true ↔ STreeOkP ns) ∧ Below W.heap.size W w') := fun W bW => streeOk_any (HN.out.below bW) HFIT.out hlen
  clear gT2 gR2 b2
  go_enter Tryz.func13, Tryz.ntmps13
  go_upto_region 1 with fail
  rw [← hw2]
  clear hw2
  go_wp2_with fail
  go_at_call 14
  refine Calls.mono (CO.out w2 BW2.out) ?_
  rintro e w3 ⟨ro, rfl, hro, b3⟩
  have gT3 := (b3.block _ (blk_lt GT2.out)).trans GT2.out
  have gR3 := (b3.block _ (blk_lt GR2.out)).trans GR2.out
  have GT3 := (show Hid _ from gT3)
  have GR3 := (show Hid _ from gR3)
  have cT3 := (one_cell gT3).1
  have cR3 := (one_cell gR3).1
  have zR3 := (one_cell gR3).2
  have BW3 := (show Hid (Below w.heap.size w w3) from BW2.out.trans (b3.mono BW2.out.size))
  clear gT3 gR3 b3 GT2 GR2 BW2 cT2 cR2 zR2
  have HRO := (show Hid (ro = true ↔ STreeOkP ns) from hro)
  clear hro CO
  cases ro with
  | false =>
    go_wp2
    refine bodyPost_ret (STreeHang_res rfl rfl (setCell_at GR3.out)) rfl ?_
    exact ⟨_, _, _, false, rfl, ⟨fun h => (by cases h), fun h => HRO.out.mpr h.1⟩, BW3.out.setCell (p := ⟨w.heap.size + 1, 0, none⟩) (by simp) _⟩
  | true =>
    have HOK := (show Hid (STreeOkP ns) from HRO.out.mp rfl)
    clear HRO
    have CC : Hid (∀ W, Below w.heap.size w W → Calls Tryz.prog 55 #[.agg #[.slice a ns.length cap]] W fun e w' => ∃ v', e = .returned (.agg #[v']) ∧ OwnN W.heap.size w' v' ns ∧ Below W.heap.size W w') := fun W bW => scopy_any (HN.out.below bW) HFIT.out hlen
    by_cases h1 : 0 ≤ c ∧ c < ns.length
    rotate_left
    · have HNO : Hid (¬ HangB ns c p) := fun h => h1 h.2.1
      go_wp2_with fail
      go_at_call 52
      refine Calls.mono (show Calls Tryz.prog 52 #[.agg #[.slice a ns.length cap], .int .i64 c] w3 fun e w' => e = .returned (.bool false) ∧ Below w3.heap.size w3 w' from by have h := shas_any (w := w3) (a := a) (cap := cap) (n := ns.length) c hlen; rw [inB_no (by omega)] at h; exact h) ?_
      rintro e w4 ⟨rfl, b4⟩
      have gT4 := (b4.block _ (blk_lt GT3.out)).trans GT3.out
      have gR4 := (b4.block _ (blk_lt GR3.out)).trans GR3.out
      have GT4 := (show Hid _ from gT4)
      have GR4 := (show Hid _ from gR4)
      have cT4 := (one_cell gT4).1
      have cR4 := (one_cell gR4).1
      have zR4 := (one_cell gR4).2
      have BW4 := (show Hid (Below w.heap.size w w4) from BW3.out.trans (b4.mono BW3.out.size))
      clear gT4 gR4 b4 GT3 GR3 BW3 cT3 cR3 zR3
      go_wp2_with fail
      go_at_call 55
      refine Calls.mono (CC.out w4 BW4.out) ?_
      rintro e w5 ⟨v', rfl, own, b5⟩
      obtain ⟨va, vc, rfl, _, _, _⟩ := own.nodes.slice
      clear own
      have gT5 := (b5.block _ (blk_lt GT4.out)).trans GT4.out
      have gR5 := (b5.block _ (blk_lt GR4.out)).trans GR4.out
      have GT5 := (show Hid _ from gT5)
      have GR5 := (show Hid _ from gR5)
      have cT5 := (one_cell gT5).1
      have cR5 := (one_cell gR5).1
      have zR5 := (one_cell gR5).2
      have BW5 := (show Hid (Below w.heap.size w w5) from BW4.out.trans (b5.mono BW4.out.size))
      clear gT5 gR5 b5 GT4 GR4 BW4 cT4 cR4 zR4
      go_wp2
      refine bodyPost_ret (STreeHang_res rfl rfl (setCell_at GR5.out)) rfl ?_
      exact ⟨_, _, _, false, rfl, ⟨fun h => (by cases h), fun h => absurd h HNO.out⟩, BW5.out.setCell (p := ⟨w.heap.size + 1, 0, none⟩) (by simp) _⟩
    by_cases h2 : 0 ≤ p ∧ p < ns.length
    rotate_left
    · have HNO : Hid (¬ HangB ns c p) := fun h => h2 h.2.2.1
      go_wp2_with fail
      go_at_call 52
      refine Calls.mono (show Calls Tryz.prog 52 #[.agg #[.slice a ns.length cap], .int .i64 c] w3 fun e w' => e = .returned (.bool true) ∧ Below w3.heap.size w3 w' from by have h := shas_any (w := w3) (a := a) (cap := cap) (n := ns.length) c hlen; rw [inB_yes (by omega) (by omega)] at h; exact h) ?_
      rintro e w4 ⟨rfl, b4⟩
      have gT4 := (b4.block _ (blk_lt GT3.out)).trans GT3.out
      have gR4 := (b4.block _ (blk_lt GR3.out)).trans GR3.out
      have GT4 := (show Hid _ from gT4)
      have GR4 := (show Hid _ from gR4)
      have cT4 := (one_cell gT4).1
      have cR4 := (one_cell gR4).1
      have zR4 := (one_cell gR4).2
      have BW4 := (show Hid (Below w.heap.size w w4) from BW3.out.trans (b4.mono BW3.out.size))
      clear gT4 gR4 b4 GT3 GR3 BW3 cT3 cR3 zR3
      go_wp2_with fail
      go_at_call 52
      refine Calls.mono (show Calls Tryz.prog 52 #[.agg #[.slice a ns.length cap], .int .i64 p] w4 fun e w' => e = .returned (.bool false) ∧ Below w4.heap.size w4 w' from by have h := shas_any (w := w4) (a := a) (cap := cap) (n := ns.length) p hlen; rw [inB_no (by omega)] at h; exact h) ?_
      rintro e w5 ⟨rfl, b5⟩
      have gT5 := (b5.block _ (blk_lt GT4.out)).trans GT4.out
      have gR5 := (b5.block _ (blk_lt GR4.out)).trans GR4.out
      have GT5 := (show Hid _ from gT5)
      have GR5 := (show Hid _ from gR5)
      have cT5 := (one_cell gT5).1
      have cR5 := (one_cell gR5).1
      have zR5 := (one_cell gR5).2
      have BW5 := (show Hid (Below w.heap.size w w5) from BW4.out.trans (b5.mono BW4.out.size))
      clear gT5 gR5 b5 GT4 GR4 BW4 cT4 cR4 zR4
      go_wp2_with fail
      go_at_call 55
      refine Calls.mono (CC.out w5 BW5.out) ?_
      rintro e w6 ⟨v', rfl, own, b6⟩
      obtain ⟨va, vc, rfl, _, _, _⟩ := own.nodes.slice
      clear own
      have gT6 := (b6.block _ (blk_lt GT5.out)).trans GT5.out
      have gR6 := (b6.block _ (blk_lt GR5.out)).trans GR5.out
      have GT6 := (show Hid _ from gT6)
      have GR6 := (show Hid _ from gR6)
      have cT6 := (one_cell gT6).1
      have cR6 := (one_cell gR6).1
      have zR6 := (one_cell gR6).2
      have BW6 := (show Hid (Below w.heap.size w w6) from BW5.out.trans (b6.mono BW5.out.size))
      clear gT6 gR6 b6 GT5 GR5 BW5 cT5 cR5 zR5
      go_wp2
      refine bodyPost_ret (STreeHang_res rfl rfl (setCell_at GR6.out)) rfl ?_
      exact ⟨_, _, _, false, rfl, ⟨fun h => (by cases h), fun h => absurd h HNO.out⟩, BW6.out.setCell (p := ⟨w.heap.size + 1, 0, none⟩) (by simp) _⟩
    by_cases h3 : c = 0
    · have HNO : Hid (¬ HangB ns c p) := fun h => h.2.2.2.1 h3
      subst h3
      go_wp2_with fail
      go_at_call 52
      refine Calls.mono (show Calls Tryz.prog 52 #[.agg #[.slice a ns.length cap], .int .i64 0] w3 fun e w' => e = .returned (.bool true) ∧ Below w3.heap.size w3 w' from by have h := shas_any (w := w3) (a := a) (cap := cap) (n := ns.length) 0 hlen; rw [inB_yes (by omega) (by omega)] at h; exact h) ?_
      rintro e w4 ⟨rfl, b4⟩
      have gT4 := (b4.block _ (blk_lt GT3.out)).trans GT3.out
      have gR4 := (b4.block _ (blk_lt GR3.out)).trans GR3.out
      have GT4 := (show Hid _ from gT4)
      have GR4 := (show Hid _ from gR4)
      have cT4 := (one_cell gT4).1
      have cR4 := (one_cell gR4).1
      have zR4 := (one_cell gR4).2
      have BW4 := (show Hid (Below w.heap.size w w4) from BW3.out.trans (b4.mono BW3.out.size))
      clear gT4 gR4 b4 GT3 GR3 BW3 cT3 cR3 zR3
      go_wp2_with fail
      go_at_call 52
      refine Calls.mono (show Calls Tryz.prog 52 #[.agg #[.slice a ns.length cap], .int .i64 p] w4 fun e w' => e = .returned (.bool true) ∧ Below w4.heap.size w4 w' from by have h := shas_any (w := w4) (a := a) (cap := cap) (n := ns.length) p hlen; rw [inB_yes (by omega) (by omega)] at h; exact h) ?_
      rintro e w5 ⟨rfl, b5⟩
      have gT5 := (b5.block _ (blk_lt GT4.out)).trans GT4.out
      have gR5 := (b5.block _ (blk_lt GR4.out)).trans GR4.out
      have GT5 := (show Hid _ from gT5)
      have GR5 := (show Hid _ from gR5)
      have cT5 := (one_cell gT5).1
      have cR5 := (one_cell gR5).1
      have zR5 := (one_cell gR5).2
      have BW5 := (show Hid (Below w.heap.size w w5) from BW4.out.trans (b5.mono BW4.out.size))
      clear gT5 gR5 b5 GT4 GR4 BW4 cT4 cR4 zR4
      go_wp2_with fail
      go_at_call 55
      refine Calls.mono (CC.out w5 BW5.out) ?_
      rintro e w6 ⟨v', rfl, own, b6⟩
      obtain ⟨va, vc, rfl, _, _, _⟩ := own.nodes.slice
      clear own
      have gT6 := (b6.block _ (blk_lt GT5.out)).trans GT5.out
      have gR6 := (b6.block _ (blk_lt GR5.out)).trans GR5.out
      have GT6 := (show Hid _ from gT6)
      have GR6 := (show Hid _ from gR6)
      have cT6 := (one_cell gT6).1
      have cR6 := (one_cell gR6).1
      have zR6 := (one_cell gR6).2
      have BW6 := (show Hid (Below w.heap.size w w6) from BW5.out.trans (b6.mono BW5.out.size))
      clear gT6 gR6 b6 GT5 GR5 BW5 cT5 cR5 zR5
      go_wp2
      refine bodyPost_ret (STreeHang_res rfl rfl (setCell_at GR6.out)) rfl ?_
      exact ⟨_, _, _, false, rfl, ⟨fun h => (by cases h), fun h => absurd h HNO.out⟩, BW6.out.setCell (p := ⟨w.heap.size + 1, 0, none⟩) (by simp) _⟩
    obtain ⟨cn, rfl⟩ : ∃ cn : Nat, c = cn := ⟨c.toNat, by omega⟩
    obtain ⟨pn, rfl⟩ : ∃ pn : Nat, p = pn := ⟨p.toNat, by omega⟩
    have hcn : cn < ns.length := by omega
    have hpn : pn < ns.length := by omega
    cases hop : opensB ns[pn] with
    | false =>
      have HOP := (show Hid (opensB ns[pn] = false) from hop)
      have HNO : Hid (¬ HangB ns (cn : Int) (pn : Int)) := fun h => by
        obtain ⟨_, h'⟩ := h.2.2.2.2.1
        simp [hop] at h'
      clear hop
      go_wp2_with fail
      go_at_call 52
      refine Calls.mono (show Calls Tryz.prog 52 #[.agg #[.slice a ns.length cap], .int .i64 (cn : Int)] w3 fun e w' => e = .returned (.bool true) ∧ Below w3.heap.size w3 w' from by have h := shas_any (w := w3) (a := a) (cap := cap) (n := ns.length) (cn : Int) hlen; rw [inB_yes (by omega) (by omega)] at h; exact h) ?_
      rintro e w4 ⟨rfl, b4⟩
      have gT4 := (b4.block _ (blk_lt GT3.out)).trans GT3.out
      have gR4 := (b4.block _ (blk_lt GR3.out)).trans GR3.out
      have GT4 := (show Hid _ from gT4)
      have GR4 := (show Hid _ from gR4)
      have cT4 := (one_cell gT4).1
      have cR4 := (one_cell gR4).1
      have zR4 := (one_cell gR4).2
      have BW4 := (show Hid (Below w.heap.size w w4) from BW3.out.trans (b4.mono BW3.out.size))
      clear gT4 gR4 b4 GT3 GR3 BW3 cT3 cR3 zR3
      go_wp2_with fail
      go_at_call 52
      refine Calls.mono (show Calls Tryz.prog 52 #[.agg #[.slice a ns.length cap], .int .i64 (pn : Int)] w4 fun e w' => e = .returned (.bool true) ∧ Below w4.heap.size w4 w' from by have h := shas_any (w := w4) (a := a) (cap := cap) (n := ns.length) (pn : Int) hlen; rw [inB_yes (by omega) (by omega)] at h; exact h) ?_
      rintro e w5 ⟨rfl, b5⟩
      have gT5 := (b5.block _ (blk_lt GT4.out)).trans GT4.out
      have gR5 := (b5.block _ (blk_lt GR4.out)).trans GR4.out
      have GT5 := (show Hid _ from gT5)
      have GR5 := (show Hid _ from gR5)
      have cT5 := (one_cell gT5).1
      have cR5 := (one_cell gR5).1
      have zR5 := (one_cell gR5).2
      have BW5 := (show Hid (Below w.heap.size w w5) from BW4.out.trans (b5.mono BW4.out.size))
      clear gT5 gR5 b5 GT4 GR4 BW4 cT4 cR4 zR4
      go_wp2_with fail
      go_at_call 53
      refine Calls.mono (show Calls Tryz.prog 53 #[.agg #[.slice a ns.length cap], .int .i64 (pn : Int)] w5 fun e w' => e = .returned (.bool false) ∧ Below w5.heap.size w5 w' from by have h := sopens_b (HN.out.below BW5.out) hlen hpn; rw [HOP.out] at h; exact h) ?_
      rintro e w6 ⟨rfl, b6⟩
      have gT6 := (b6.block _ (blk_lt GT5.out)).trans GT5.out
      have gR6 := (b6.block _ (blk_lt GR5.out)).trans GR5.out
      have GT6 := (show Hid _ from gT6)
      have GR6 := (show Hid _ from gR6)
      have cT6 := (one_cell gT6).1
      have cR6 := (one_cell gR6).1
      have zR6 := (one_cell gR6).2
      have BW6 := (show Hid (Below w.heap.size w w6) from BW5.out.trans (b6.mono BW5.out.size))
      clear gT6 gR6 b6 GT5 GR5 BW5 cT5 cR5 zR5
      go_wp2_with fail
      go_at_call 55
      refine Calls.mono (CC.out w6 BW6.out) ?_
      rintro e w7 ⟨v', rfl, own, b7⟩
      obtain ⟨va, vc, rfl, _, _, _⟩ := own.nodes.slice
      clear own
      have gT7 := (b7.block _ (blk_lt GT6.out)).trans GT6.out
      have gR7 := (b7.block _ (blk_lt GR6.out)).trans GR6.out
      have GT7 := (show Hid _ from gT7)
      have GR7 := (show Hid _ from gR7)
      have cT7 := (one_cell gT7).1
      have cR7 := (one_cell gR7).1
      have zR7 := (one_cell gR7).2
      have BW7 := (show Hid (Below w.heap.size w w7) from BW6.out.trans (b7.mono BW6.out.size))
      clear gT7 gR7 b7 GT6 GR6 BW6 cT6 cR6 zR6
      go_wp2
      refine bodyPost_ret (STreeHang_res rfl rfl (setCell_at GR7.out)) rfl ?_
      exact ⟨_, _, _, false, rfl, ⟨fun h => (by cases h), fun h => absurd h HNO.out⟩, BW7.out.setCell (p := ⟨w.heap.size + 1, 0, none⟩) (by simp) _⟩
    | true =>
      have HOP := (show Hid (opensB ns[pn] = true) from hop)
      clear hop
      go_wp2_with fail
      go_at_call 52
      refine Calls.mono (show Calls Tryz.prog 52 #[.agg #[.slice a ns.length cap], .int .i64 (cn : Int)] w3 fun e w' => e = .returned (.bool true) ∧ Below w3.heap.size w3 w' from by have h := shas_any (w := w3) (a := a) (cap := cap) (n := ns.length) (cn : Int) hlen; rw [inB_yes (by omega) (by omega)] at h; exact h) ?_
      rintro e w4 ⟨rfl, b4⟩
      have gT4 := (b4.block _ (blk_lt GT3.out)).trans GT3.out
      have gR4 := (b4.block _ (blk_lt GR3.out)).trans GR3.out
      have GT4 := (show Hid _ from gT4)
      have GR4 := (show Hid _ from gR4)
      have cT4 := (one_cell gT4).1
      have cR4 := (one_cell gR4).1
      have zR4 := (one_cell gR4).2
      have BW4 := (show Hid (Below w.heap.size w w4) from BW3.out.trans (b4.mono BW3.out.size))
      clear gT4 gR4 b4 GT3 GR3 BW3 cT3 cR3 zR3
      go_wp2_with fail
      go_at_call 52
      refine Calls.mono (show Calls Tryz.prog 52 #[.agg #[.slice a ns.length cap], .int .i64 (pn : Int)] w4 fun e w' => e = .returned (.bool true) ∧ Below w4.heap.size w4 w' from by have h := shas_any (w := w4) (a := a) (cap := cap) (n := ns.length) (pn : Int) hlen; rw [inB_yes (by omega) (by omega)] at h; exact h) ?_
      rintro e w5 ⟨rfl, b5⟩
      have gT5 := (b5.block _ (blk_lt GT4.out)).trans GT4.out
      have gR5 := (b5.block _ (blk_lt GR4.out)).trans GR4.out
      have GT5 := (show Hid _ from gT5)
      have GR5 := (show Hid _ from gR5)
      have cT5 := (one_cell gT5).1
      have cR5 := (one_cell gR5).1
      have zR5 := (one_cell gR5).2
      have BW5 := (show Hid (Below w.heap.size w w5) from BW4.out.trans (b5.mono BW4.out.size))
      clear gT5 gR5 b5 GT4 GR4 BW4 cT4 cR4 zR4
      go_wp2_with fail
      go_at_call 53
      refine Calls.mono (show Calls Tryz.prog 53 #[.agg #[.slice a ns.length cap], .int .i64 (pn : Int)] w5 fun e w' => e = .returned (.bool true) ∧ Below w5.heap.size w5 w' from by have h := sopens_b (HN.out.below BW5.out) hlen hpn; rw [HOP.out] at h; exact h) ?_
      rintro e w6 ⟨rfl, b6⟩
      have gT6 := (b6.block _ (blk_lt GT5.out)).trans GT5.out
      have gR6 := (b6.block _ (blk_lt GR5.out)).trans GR5.out
      have GT6 := (show Hid _ from gT6)
      have GR6 := (show Hid _ from gR6)
      have cT6 := (one_cell gT6).1
      have cR6 := (one_cell gR6).1
      have zR6 := (one_cell gR6).2
      have BW6 := (show Hid (Below w.heap.size w w6) from BW5.out.trans (b6.mono BW5.out.size))
      clear gT6 gR6 b6 GT5 GR5 BW5 cT5 cR5 zR5
      go_wp2_with fail
      go_at_call 54
      refine Calls.mono (sbelow_any (HN.out.below BW6.out) hlen HOK.out.1 hpn hcn) ?_
      rintro e w7 ⟨rb, rfl, hrb, b7⟩
      have gT7 := (b7.block _ (blk_lt GT6.out)).trans GT6.out
      have gR7 := (b7.block _ (blk_lt GR6.out)).trans GR6.out
      have GT7 := (show Hid _ from gT7)
      have GR7 := (show Hid _ from gR7)
      have cT7 := (one_cell gT7).1
      have cR7 := (one_cell gR7).1
      have zR7 := (one_cell gR7).2
      have BW7 := (show Hid (Below w.heap.size w w7) from BW6.out.trans (b7.mono BW6.out.size))
      clear gT7 gR7 b7 GT6 GR6 BW6 cT6 cR6 zR6
      have HRB := (show Hid (rb = true ↔ ∃ d, belD ns cn d pn) from hrb)
      clear hrb
      cases rb with
      | true =>
        have HNO : Hid (¬ HangB ns (cn : Int) (pn : Int)) := fun h => h.2.2.2.2.2 (by simpa using HRB.out.mp rfl)
        go_wp2_with fail
        go_at_call 55
        refine Calls.mono (CC.out w7 BW7.out) ?_
        rintro e w8 ⟨v', rfl, own, b8⟩
        obtain ⟨va, vc, rfl, _, _, _⟩ := own.nodes.slice
        clear own
        have gT8 := (b8.block _ (blk_lt GT7.out)).trans GT7.out
        have gR8 := (b8.block _ (blk_lt GR7.out)).trans GR7.out
        have GT8 := (show Hid _ from gT8)
        have GR8 := (show Hid _ from gR8)
        have cT8 := (one_cell gT8).1
        have cR8 := (one_cell gR8).1
        have zR8 := (one_cell gR8).2
        have BW8 := (show Hid (Below w.heap.size w w8) from BW7.out.trans (b8.mono BW7.out.size))
        clear gT8 gR8 b8 GT7 GR7 BW7 cT7 cR7 zR7
        go_wp2
        refine bodyPost_ret (STreeHang_res rfl rfl (setCell_at GR8.out)) rfl ?_
        exact ⟨_, _, _, false, rfl, ⟨fun h => (by cases h), fun h => absurd h HNO.out⟩, BW8.out.setCell (p := ⟨w.heap.size + 1, 0, none⟩) (by simp) _⟩
      | false =>
        have HYES : Hid (HangB ns (cn : Int) (pn : Int)) := ⟨HOK.out, h1, h2, h3, ⟨by simpa using hpn, by simpa using HOP.out⟩, fun h => by have := HRB.out.mpr (by simpa using h); cases this⟩
        go_wp2_with fail
        go_at_call 55
        refine Calls.mono (CC.out w7 BW7.out) ?_
        rintro e w8 ⟨v', rfl, own, b8⟩
        obtain ⟨va, vc, rfl, _, _, _⟩ := own.nodes.slice
        have gT8 := (b8.block _ (blk_lt GT7.out)).trans GT7.out
        have gR8 := (b8.block _ (blk_lt GR7.out)).trans GR7.out
        have GT8 := (show Hid _ from gT8)
        have GR8 := (show Hid _ from gR8)
        have cT8 := (one_cell gT8).1
        have cR8 := (one_cell gR8).1
        have zR8 := (one_cell gR8).2
        have BW8 := (show Hid (Below w.heap.size w w8) from BW7.out.trans (b8.mono BW7.out.size))
        have OWN := (show Hid (OwnN w7.heap.size w8 (.slice va ns.length vc) ns) from own)
        have HSZ := (show Hid (w7.heap.size ≤ w8.heap.size) from b8.size)
        have HLE := (show Hid (w.heap.size ≤ w7.heap.size) from BW7.out.size)
        have HRL := (show Hid (w.heap.size + 1 < w7.heap.size) from blk_lt GR7.out)
        clear own gT8 gR8 b8 GT7 GR7 BW7 cT7 cR7 zR7
        go_wp2_with fail
        go_at_call 56
        refine Calls.mono (shang_right OWN.out HSZ.out HOK.out.1 hcn hpn) ?_
        rintro e wz ⟨rfl, gz⟩
        have hown : ∀ r, (Value.slice va ns.length vc).ownBlock = some r → w7.heap.size ≤ r := fun r e => (World.ownsRow.lt OWN.out.row r e).1
        have gRz := (gz.block _ (blk_lt GR8.out) (fun e => by have := hown _ e.symm; have := HRL.out; omega)).trans GR8.out
        have GRz := (show Hid _ from gRz)
        have cRz := (one_cell gRz).1
        have zRz := (one_cell gRz).2
        have BWz := (show Hid (Below w.heap.size w wz) from BW8.out.grown gz BW8.out.size (fun r e => by have := hown r e; have := HLE.out; omega))
        clear gRz gz hown cT8 cR8 zR8
        go_wp2
        refine bodyPost_ret (STreeHang_res rfl rfl (setCell_at GRz.out)) rfl ?_
        exact ⟨_, _, _, true, rfl, ⟨fun _ => HYES.out, fun _ => rfl⟩, BWz.out.setCell (p := ⟨w.heap.size + 1, 0, none⟩) (by simp) _⟩
end Go.Proofs.YtogdbjafibejdaaGreat

/- A tree with a node more behind, in plain words. No condition. -/
namespace Go.Proofs.YtogdbjafibejdaaGreat
open Go.RowKit
set_option maxRecDepth 100000
set_option linter.unusedVariables false

theorem kidsOf_snoc {ns : List PNode} {nd : PNode} (hk : nd.kids = []) (k : Nat) : kidsOf (ns ++ [nd]) k = kidsOf ns k := by
  unfold kidsOf
  by_cases h : k < ns.length
  · rw [List.getElem?_append_left h]
  · rw [List.getElem?_append_right (by omega), List.getElem?_eq_none (by omega : ns.length ≤ k)]
    by_cases h2 : k = ns.length
    · subst h2; simp [hk]
    · rw [List.getElem?_eq_none (by simp; omega)]
theorem parOf_snoc {ns : List PNode} {nd : PNode} (hp : nd.parent = -1) (k : Nat) : parOf (ns ++ [nd]) k = parOf ns k := by
  unfold parOf
  by_cases h : k < ns.length
  · rw [List.getElem?_append_left h]
  · rw [List.getElem?_append_right (by omega), List.getElem?_eq_none (by omega : ns.length ≤ k)]
    by_cases h2 : k = ns.length
    · subst h2; simp [hp]
    · rw [List.getElem?_eq_none (by simp; omega)]
theorem dep_snoc {ns : List PNode} {nd : PNode} (hk : nd.kids = []) (hp : nd.parent = -1) : ∀ (d i : Nat), dep ns d i → dep (ns ++ [nd]) d i
  | 0, i, h => ⟨by have := h.1; simp; omega, by rw [parOf_snoc hp]; exact h.2⟩
  | d + 1, i, h => by
    obtain ⟨p, h1, h2⟩ := h
    exact ⟨p, dep_snoc hk hp d p h1, by rw [kidsOf_snoc hk]; exact h2⟩

/-- An element below none may be put behind, where there is room. -/
theorem tree_snoc {ns : List PNode} (h : TreeOkP ns) {nd : PNode} (hk : nd.kids = []) (hp : nd.parent = -1) (hn : nd.kind ≠ 1) (hg : nodeB nd.kind nd.name nd.attrs nd.text nd.kids.length = true) (hl : ns.length < 500) : TreeOkP (ns ++ [nd]) := by
  have h1 := h.one
  refine ⟨by simp, by simp; omega, fun k hlt => ?_, fun k hlt => ?_, fun i hi => ?_⟩
  · by_cases hk2 : k < ns.length
    · rw [List.getElem_append_left hk2]
      exact h.good k hk2
    · have e : k = ns.length := by simp at hlt; omega
      subst e
      rw [List.getElem_append_right (Nat.le_refl _)]
      simp only [Nat.sub_self, List.getElem_cons_zero]
      rw [goodB, hg, decide_eq_false hn, decide_eq_false (by omega)]
      rfl
  · rw [kidsOf_snoc hk]
    by_cases hk2 : k < ns.length
    · obtain ⟨f1, f2⟩ := h.fit k hk2
      refine ⟨f1, fun x hx => ?_⟩
      obtain ⟨g1, g2, g3⟩ := f2 x hx
      exact ⟨g1, by simp; omega, by rw [parOf_snoc hp]; exact g3⟩
    · rw [kidsOf_out hk2]
      exact ⟨List.nodup_nil, fun x hx => by cases hx⟩
  · by_cases hi2 : i < ns.length
    · obtain ⟨d, hd⟩ := h.linked i hi2
      exact ⟨d, dep_snoc hk hp d i hd⟩
    · refine ⟨0, hi, ?_⟩
      rw [parOf_snoc hp, parOf, List.getElem?_eq_none (by omega)]
      rfl
theorem tree_full {ns : List PNode} {nd : PNode} (hl : ¬ ns.length < 500) : ¬ TreeOkP (ns ++ [nd]) := fun h => by
  have := h.most
  simp at this
  omega
end Go.Proofs.YtogdbjafibejdaaGreat

/- A text that is written below a node, in plain words. No condition. -/
namespace Go.Proofs.YtogdbjafibejdaaGreat
open Go.RowKit
set_option maxRecDepth 100000
set_option linter.unusedVariables false

/-- The last of the Kids of node p is the text k. -/
def LastT (ns : List PNode) (p k : Nat) : Prop := ∃ pre, kidsOf ns p = pre ++ [(k : Int)] ∧ ∃ h : k < ns.length, ns[k].kind = 4
theorem LastT.one {ns : List PNode} {p k j : Nat} (h : LastT ns p k) (h' : LastT ns p j) : k = j := by
  obtain ⟨a, ha, _⟩ := h
  obtain ⟨b, hb, _⟩ := h'
  rw [ha] at hb
  have e := List.append_inj_right' hb rfl
  simp at e
  omega
def setText (n : PNode) (s : ByteArray) : PNode := ⟨n.kind, n.name, n.attrs, s, n.parent, n.kids⟩
/-- A text that stands below none. -/
def txtN (s : ByteArray) : PNode := ⟨4, ⟨#[]⟩, [], s, -1, []⟩
/-- More at the end of the text k. -/
def moreN (ns : List PNode) (k : Nat) (s : ByteArray) : List PNode := ns.modify k fun n => setText n (n.text ++ s)
/-- A new text below node p. -/
def newN (ns : List PNode) (p : Nat) (s : ByteArray) : List PNode := hangN (ns ++ [txtN s]) ns.length p

theorem moreN_len (ns : List PNode) (k : Nat) (s : ByteArray) : (moreN ns k s).length = ns.length := by simp [moreN]
theorem kidsOf_moreN (ns : List PNode) (k : Nat) (s : ByteArray) (j : Nat) : kidsOf (moreN ns k s) j = kidsOf ns j := by
  unfold kidsOf moreN
  rw [List.getElem?_modify]
  cases ns[j]? with
  | none => rfl
  | some n => by_cases e : k = j <;> simp [e, setText]
theorem parOf_moreN (ns : List PNode) (k : Nat) (s : ByteArray) (j : Nat) : parOf (moreN ns k s) j = parOf ns j := by
  unfold parOf moreN
  rw [List.getElem?_modify]
  cases ns[j]? with
  | none => rfl
  | some n => by_cases e : k = j <;> simp [e, setText]
theorem dep_like {ns ms : List PNode} (hl : ms.length = ns.length) (hk : ∀ k, kidsOf ms k = kidsOf ns k) (hp : ∀ k, parOf ms k = parOf ns k) : ∀ d i, dep ns d i → dep ms d i
  | 0, i, h => ⟨by have := h.1; omega, by rw [hp]; exact h.2⟩
  | d + 1, i, h => by
    obtain ⟨p, h1, h2⟩ := h
    exact ⟨p, dep_like hl hk hp d p h1, by rw [hk]; exact h2⟩
theorem tree_like {ns ms : List PNode} (hl : ms.length = ns.length) (hk : ∀ k, kidsOf ms k = kidsOf ns k) (hp : ∀ k, parOf ms k = parOf ns k) (h : TreeOkP ns) (hg : ∀ k (h : k < ms.length), goodB ms[k] k = true) : TreeOkP ms := by
  refine ⟨by have := h.one; omega, by have := h.most; omega, hg, fun k hlt => ?_, fun i hi => ?_⟩
  · obtain ⟨f1, f2⟩ := h.fit k (by omega)
    rw [hk]
    refine ⟨f1, fun x hx => ?_⟩
    obtain ⟨g1, g2, g3⟩ := f2 x hx
    exact ⟨g1, by rw [hl]; exact g2, by rw [hp]; exact g3⟩
  · obtain ⟨d, hd⟩ := h.linked i (by omega)
    exact ⟨d, dep_like hl hk hp d i hd⟩

theorem toListW_loop (s : ByteArray) : ∀ (n i : Nat) (r : List UInt8), s.size - i = n → (r ≠ [] ∨ 0 < n) → ByteArray.toList.loop s i r ≠ []
  | 0, i, r, h, hr => by
    rw [ByteArray.toList.loop]
    rw [if_neg (by omega)]
    rcases hr with hr | hr
    · simpa using hr
    · omega
  | n + 1, i, r, h, hr => by
    rw [ByteArray.toList.loop]
    rw [if_pos (by omega)]
    exact toListW_loop s n (i + 1) _ (by omega) (.inl (by simp))
theorem empB_iff (s : ByteArray) : empB s = true ↔ s.size = 0 := by
  unfold empB
  rw [decide_eq_true_iff]
  constructor
  · intro h
    apply Classical.byContradiction
    intro hn
    exact toListW_loop s s.size 0 [] (by omega) (.inr (by omega)) h
  · intro h
    unfold ByteArray.toList
    rw [ByteArray.toList.loop, if_neg (by omega)]
    rfl
theorem empB_no {s : ByteArray} : empB s = false ↔ s.size ≠ 0 := by
  rw [← Bool.not_eq_true, empB_iff]
theorem emp_more {t s : ByteArray} (h : empB t = false) : empB (t ++ s) = false := by
  rw [empB_no] at *
  rw [ByteArray.size_append]
  omega
theorem more_ok {ns : List PNode} (h : TreeOkP ns) {k : Nat} (hk : k < ns.length) (h4 : ns[k].kind = 4) (s : ByteArray) : TreeOkP (moreN ns k s) ↔ utfOk (bs (ns[k].text ++ s)) = true := by
  have hg := h.good k hk
  unfold goodB nodeB at hg
  simp only [h4] at hg
  simp at hg
  have hat : ∀ hk', (moreN ns k s)[k]'hk' = setText ns[k] (ns[k].text ++ s) := fun hk' => by simp [moreN]
  constructor
  · intro h'
    have := h'.good k (by rw [moreN_len]; exact hk)
    rw [hat] at this
    unfold goodB nodeB setText at this
    simp only [h4] at this
    simp at this
    exact this.2.1.1.1.2
  · intro hu
    refine tree_like (moreN_len _ _ _) (kidsOf_moreN _ _ _) (parOf_moreN _ _ _) h (fun j hj => ?_)
    have hj' : j < ns.length := by rw [moreN_len] at hj; exact hj
    by_cases e : k = j
    · subst e
      rw [hat]
      unfold goodB nodeB setText
      simp only [h4]
      simp
      exact ⟨hg.1, ⟨⟨⟨emp_more (by simpa using hg.2.1.1.1.1), hu⟩, hg.2.1.1.2⟩, hg.2.1.2⟩, hg.2.2⟩
    · have : (moreN ns k s)[j] = ns[j] := by simp [moreN, e]
      rw [this]
      exact h.good j hj'

theorem bel_leaf {ns : List PNode} {c : Nat} (hk : kidsOf ns c = []) : ∀ d i, belD ns c d i → i = c
  | 0, i, h => h
  | d + 1, i, h => by
    obtain ⟨q, hq, hm⟩ := h
    have := bel_leaf hk d q hq
    subst this
    rw [hk] at hm
    cases hm
theorem new_ok {ns : List PNode} (h : STreeOkP ns) {p : Nat} (hp : p < ns.length) {s : ByteArray} (hs : empB s = false) (hu : utfOk (bs s) = true) : TreeOkP (newN ns p s) ↔ ns.length < 500 ∧ opensB ns[p] = true := by
  by_cases hl : ns.length < 500
  · have ht : TreeOkP (ns ++ [txtN s]) := tree_snoc h.1 rfl rfl (by show (4 : Int) ≠ 1; decide) (by simp [nodeB, txtN, hs, hu]; exact (empB_iff _).mpr rfl) hl
    have hst : STreeOkP (ns ++ [txtN s]) := ⟨ht, by rw [parOf_snoc rfl]; exact h.2⟩
    have hc : ns.length < (ns ++ [txtN s]).length := by simp
    have hp' : p < (ns ++ [txtN s]).length := by simp; omega
    have ho : (ns ++ [txtN s])[p] = ns[p] := List.getElem_append_left hp
    have hkd : kidsOf (ns ++ [txtN s]) ns.length = [] := by rw [kidsOf_snoc rfl, kidsOf_out (by omega)]
    have h1 := h.1.one
    constructor
    · intro hh
      refine ⟨hl, ?_⟩
      cases e : opensB ns[p] with
      | true => rfl
      | false => exact absurd hh (hang_bad hst hc hp' (.inl (by rw [ho]; exact e)))
    · intro hh
      exact (hang_ok hst hc hp' (by omega) (by rw [ho]; exact hh.2) (fun d hd => by have := bel_leaf hkd d p hd; omega)).1
  · constructor
    · intro hh
      have := hh.most
      simp [newN, hangN_len] at this
      omega
    · intro hh
      exact absurd hh.1 hl
theorem last_opens {ns : List PNode} (h : TreeOkP ns) {p k : Nat} (hp : p < ns.length) (hl : LastT ns p k) : opensB ns[p] = true := by
  obtain ⟨pre, hk, _⟩ := hl
  rw [kidsOf_at hp] at hk
  exact opens_of rfl (h.good p hp) (by rw [hk]; simp)
end Go.Proofs.YtogdbjafibejdaaGreat

/- The program's lastText: the text at the end of which more is written. No condition. -/
namespace Go.Proofs.YtogdbjafibejdaaGreat
open Go.RowKit
set_option maxRecDepth 100000
set_option linter.unusedVariables false

set_option maxHeartbeats 2000000 in
set_option maxRecDepth 100000 in
theorem ilastText_any {B a g cap : Nat} {w : World} {qs : List (PNode × (Value × Value))} (ha : w.heap[a]? = some (.cells #[.slice (some ⟨g, 0, none⟩) qs.length cap] 77 (0, 0))) (hO : OwnQ B w (.slice (some ⟨g, 0, none⟩) qs.length cap) qs) (hlen : qs.length ≤ 100000)
    {p : Nat} (hp : p < qs.length) (hkl : qs[p].1.kids.length ≤ 1048576) (hk : ∀ x ∈ qs[p].1.kids, 0 ≤ x ∧ x < qs.length) :
    Calls Tryz.prog 118 #[.pointer (some ⟨a, 0, none⟩), .int .i64 (p : Int)] w fun e w' => ∃ r : Option Addr, e = .returned (.pointer r) ∧ ((∃ k, LastT (qs.map (fun q => q.1)) p k ∧ r = some ⟨g, k * 6, none⟩) ∨ (r = none ∧ ¬ ∃ k, LastT (qs.map (fun q => q.1)) p k)) ∧ Below w.heap.size w w' := by
  have cA := (one_cell ha).1
  have hpl : (p : Int) < qs.length := by omega
  have ck := hO.cellAt hp (j := 5) (by omega)
  simp only [nodeRow, List.getD_cons_succ, List.getD_cons_zero] at ck
  have HKO : Hid (kidsOf (qs.map (fun q => q.1)) p = qs[p].1.kids) := (show kidsOf (qs.map (fun q => q.1)) p = qs[p].1.kids by
    have h' : p < (qs.map (fun q => q.1)).length := by simpa using hp
    rw [kidsOf_at h']; simp)
  obtain ⟨ka, kc, ek, hk1, hk2, hk3, hk4⟩ := (hO.2 qs[p] (List.getElem_mem hp)).2.sl
  rw [ek] at ck
  have HO := (show Hid (OwnQ B w (.slice (some ⟨g, 0, none⟩) qs.length cap) qs) from hO)
  by_cases h0 : qs[p].1.kids = []
  · have HNO : Hid (¬ ∃ k, LastT (qs.map (fun q => q.1)) p k) := fun ⟨k, pre, h, _⟩ => by rw [HKO.out, h0] at h; simp at h
    rw [h0, List.length_nil] at ck
    clear hk1 hk2 hk3 hk4 hk ek hO h0 hkl
    go_enter Tryz.func118, Tryz.ntmps118
    go_wp2
    go_ret
    exact ⟨none, rfl, .inr ⟨rfl, HNO.out⟩, Below.refl _ _⟩
  · obtain ⟨pre, x, hpx⟩ : ∃ pre x, qs[p].1.kids = pre ++ [x] := ⟨_, _, (List.dropLast_concat_getLast h0).symm⟩
    have hx := hk x (by rw [hpx]; simp)
    obtain ⟨k, rfl⟩ : ∃ k : Nat, x = k := ⟨x.toNat, by omega⟩
    have hkl' : k < qs.length := by omega
    have hki : (k : Int) < qs.length := hx.2
    obtain ⟨m, hm⟩ : ∃ m, m = pre.length := ⟨_, rfl⟩
    have hlm : qs[p].1.kids.length = m + 1 := by rw [hpx, hm]; simp
    obtain ⟨kb, ko, rfl, kz⟩ := hk4 m (by omega)
    have kz' : w.cell? ⟨kb, ko + m, none⟩ = some (.int .i64 (k : Int)) := by rw [kz]; simp [hpx, hm]
    rw [hlm] at ck hk1 hkl
    have cK := HO.out.cellAt hkl' (j := 0) (by omega)
    simp only [nodeRow, List.getD_cons_zero, Nat.add_zero] at cK
    obtain ⟨kk, hkk⟩ : ∃ kk, kk = qs[k].1.kind := ⟨_, rfl⟩
    have HKK := (show Hid (kk = qs[k].1.kind) from hkk)
    rw [← hkk] at cK
    have HKX : Hid (kidsOf (qs.map (fun q => q.1)) p = pre ++ [(k : Int)]) := HKO.out.trans hpx
    clear kz hpx hlm hm hk hk3 hk4 ek hO hkk h0 HKO hk2
    by_cases h4 : kk = 4
    · subst h4
      have HY : Hid (LastT (qs.map (fun q => q.1)) p k) := ⟨pre, HKX.out, by simpa using hkl', by simpa using HKK.out.symm⟩
      go_enter Tryz.func118, Tryz.ntmps118
      go_wp2
      go_big_quiet (fail)
      go_wp2
      go_ret
      exact ⟨_, rfl, .inl ⟨k, HY.out, rfl⟩, ⟨rfl, rfl, rfl, Nat.le_refl _, fun _ _ => rfl⟩⟩
    · have HNO : Hid (¬ ∃ k, LastT (qs.map (fun q => q.1)) p k) := fun ⟨j, pre', h, hj, hj4⟩ => by
        rw [HKX.out] at h
        have e := List.append_inj_right' h rfl
        simp at e
        have : j = k := by omega
        subst this
        exact h4 (HKK.out.trans (by simpa using hj4))
      go_enter Tryz.func118, Tryz.ntmps118
      go_wp2
      go_big_quiet (fail)
      go_wp2
      go_ret
      exact ⟨_, rfl, .inr ⟨rfl, HNO.out⟩, ⟨rfl, rfl, rfl, Nat.le_refl _, fun _ _ => rfl⟩⟩
end Go.Proofs.YtogdbjafibejdaaGreat
