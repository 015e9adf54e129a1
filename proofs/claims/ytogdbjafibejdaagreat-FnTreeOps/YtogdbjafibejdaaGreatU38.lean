/- The program's TreeHang and TreeTake. No condition. -/
import Derived.Test.YtogdbjafibejdaaGreatU37
import Derived.Test.YtogdbjafibejdaaGreatU24
import Derived.Test.YtogdbjafibejdaaGreatU29
import Derived.Test.YtogdbjafibejdaaGreatU17
import Derived.Test.YtogdbjafibejdaaGreatU23
import Derived.Test.YtogdbjafibejdaaGreatU36
namespace Go.Proofs.YtogdbjafibejdaaGreat
open Go.RowKit
set_option maxRecDepth 100000
set_option linter.unusedVariables false

theorem par_ok {ns : List PNode} (h : TreeOkP ns) {i : Nat} (hi : i < ns.length) : parOf ns i = -1 ∨ ∃ p : Nat, parOf ns i = p ∧ p < ns.length := by
  obtain ⟨d, hd⟩ := h.linked i hi
  cases d with
  | zero => exact .inl hd.2
  | succ d =>
    obtain ⟨p, hp, hk⟩ := hd
    obtain ⟨h1, h2, h3, h4⟩ := fit_kid h.fit hk
    exact .inr ⟨p, by simpa using h4, h1⟩

set_option maxRecDepth 100000 in
theorem ihang_all {B a g cap : Nat} {w : World} {qs : List (PNode × (Value × Value))} (ha : w.heap[a]? = some (.cells #[.slice (some ⟨g, 0, none⟩) qs.length cap] 77 (0, 0))) (hO : OwnQ B w (.slice (some ⟨g, 0, none⟩) qs.length cap) qs) (hA : Apart qs) (hB : B ≤ w.heap.size) (hlen : qs.length ≤ 100000)
    (hp : ∀ i (hi : i < qs.length), qs[i].1.parent = -1 ∨ ∃ p : Nat, qs[i].1.parent = p ∧ p < qs.length) (hkl : ∀ q ∈ qs, q.1.kids.length ≤ 1048576) (c p : Int) :
    Calls Tryz.prog 50 #[.pointer (some ⟨a, 0, none⟩), .int .i64 c, .int .i64 p] w fun e w' => ∃ r : Bool, e = .returned (.bool r) ∧ (r = true ↔ c ≠ 0 ∧ (0 ≤ c ∧ c < qs.length) ∧ (0 ≤ p ∧ p < qs.length)) ∧ (r = true → ∃ qs', qs'.map (fun q => q.1) = hangN (qs.map (fun q => q.1)) c.toNat p.toNat ∧ OwnQ B w' (.slice (some ⟨g, 0, none⟩) qs.length cap) qs') ∧ TurnQ g qs w w' := by
  by_cases h1 : c = 0 ∨ ¬ (0 ≤ c ∧ c < qs.length)
  · refine (ihang_no ha h1).mono ?_
    rintro e w' ⟨rfl, rfl⟩
    exact ⟨false, rfl, ⟨(fun h => by cases h), fun h => by rcases h1 with h1 | h1; exact absurd h1 h.1; exact absurd h.2.1 h1⟩, (fun h => by cases h), ⟨rfl, rfl, rfl, Nat.le_refl _, fun _ _ _ _ => rfl⟩⟩
  · have hc : c ≠ 0 ∧ 0 ≤ c ∧ c < qs.length := by omega
    obtain ⟨k, rfl⟩ : ∃ k : Nat, c = (k : Int) := ⟨c.toNat, by omega⟩
    by_cases h2 : 0 ≤ p ∧ p < qs.length
    · obtain ⟨m, rfl⟩ : ∃ m : Nat, p = (m : Int) := ⟨p.toNat, by omega⟩
      refine (ihang_any ha hO hA hB hlen (c := k) (by omega) (by omega) (hp k (by omega)) hkl (p := m) (by omega)).mono ?_
      rintro e w' ⟨rfl, ⟨qs', m1, o1, _⟩, t⟩
      exact ⟨true, rfl, ⟨fun _ => ⟨hc.1, hc.2, h2⟩, fun _ => rfl⟩, fun _ => ⟨qs', by simpa using m1, o1⟩, t⟩
    · refine (ihang_far ha hO hA hB hlen (c := k) (by omega) (by omega) (hp k (by omega)) hkl h2).mono ?_
      rintro e w' ⟨rfl, t⟩
      exact ⟨false, rfl, ⟨(fun h => by cases h), fun h => absurd h.2.2 h2⟩, (fun h => by cases h), t⟩
theorem itake_all {B a g cap : Nat} {w : World} {qs : List (PNode × (Value × Value))} (ha : w.heap[a]? = some (.cells #[.slice (some ⟨g, 0, none⟩) qs.length cap] 77 (0, 0))) (hO : OwnQ B w (.slice (some ⟨g, 0, none⟩) qs.length cap) qs) (hA : Apart qs) (hB : B ≤ w.heap.size) (hlen : qs.length ≤ 100000)
    (hp : ∀ i (hi : i < qs.length), qs[i].1.parent = -1 ∨ ∃ p : Nat, qs[i].1.parent = p ∧ p < qs.length) (hkl : ∀ q ∈ qs, q.1.kids.length ≤ 1048576) (c : Int) :
    Calls Tryz.prog 65 #[.pointer (some ⟨a, 0, none⟩), .int .i64 c] w fun e w' => ∃ r : Bool, e = .returned (.bool r) ∧ (r = true ↔ c ≠ 0 ∧ (0 ≤ c ∧ c < qs.length)) ∧ (r = true → ∃ qs', qs'.map (fun q => q.1) = takeN (qs.map (fun q => q.1)) c.toNat ∧ OwnQ B w' (.slice (some ⟨g, 0, none⟩) qs.length cap) qs') ∧ TurnQ g qs w w' := by
  by_cases h1 : c = 0 ∨ ¬ (0 ≤ c ∧ c < qs.length)
  · refine (itake_no ha h1).mono ?_
    rintro e w' ⟨rfl, rfl⟩
    exact ⟨false, rfl, ⟨(fun h => by cases h), fun h => by rcases h1 with h1 | h1; exact absurd h1 h.1; exact absurd h.2 h1⟩, (fun h => by cases h), ⟨rfl, rfl, rfl, Nat.le_refl _, fun _ _ _ _ => rfl⟩⟩
  · have hc : c ≠ 0 ∧ 0 ≤ c ∧ c < qs.length := by omega
    obtain ⟨k, rfl⟩ : ∃ k : Nat, c = (k : Int) := ⟨c.toNat, by omega⟩
    refine (itake_any ha hO hA hB hlen (c := k) (by omega) (by omega) (hp k (by omega)) hkl).mono ?_
    rintro e w' ⟨rfl, ⟨qs', m1, o1, _, _⟩, t⟩
    exact ⟨true, rfl, ⟨fun _ => hc, fun _ => rfl⟩, fun _ => ⟨qs', by simpa using m1, o1⟩, TurnQ.of_row t⟩

set_option maxHeartbeats 800000 in
set_option maxRecDepth 100000 in
theorem istepHang {B a g cap A C D : Nat} {w : World} {qs : List (PNode × (Value × Value))} (ha : w.heap[a]? = some (.cells #[.slice (some ⟨g, 0, none⟩) qs.length cap] 77 (0, 0))) (hO : OwnQ B w (.slice (some ⟨g, 0, none⟩) qs.length cap) qs) (hA : Apart qs) (hB : B ≤ w.heap.size) (hlen : qs.length ≤ 100000)
    (hp : ∀ i (hi : i < qs.length), qs[i].1.parent = -1 ∨ ∃ p : Nat, qs[i].1.parent = p ∧ p < qs.length) (hkl : ∀ q ∈ qs, q.1.kids.length ≤ 1048576) (c p : Int)
    (gA : w.heap[A]? = some (.cells #[.pointer (some ⟨a, 0, none⟩)] 64 (0, 0))) (gC : w.heap[C]? = some (.cells #[.int .i64 c] 3 (0, 0))) (gD : w.heap[D]? = some (.cells #[.int .i64 p] 3 (0, 0))) :
    Calls Tryz.prog 49 #[.pointer (some ⟨A, 0, none⟩), .pointer (some ⟨C, 0, none⟩), .pointer (some ⟨D, 0, none⟩)] w fun e w' => ∃ r : Bool, e = .returned (.bool r) ∧ (r = true ↔ c ≠ 0 ∧ (0 ≤ c ∧ c < qs.length) ∧ (0 ≤ p ∧ p < qs.length)) ∧ (r = true → ∃ qs', qs'.map (fun q => q.1) = hangN (qs.map (fun q => q.1)) c.toNat p.toNat ∧ OwnQ B w' (.slice (some ⟨g, 0, none⟩) qs.length cap) qs') ∧ TurnQ g qs w w' := by
  have CC := (show Hid _ from ihang_all ha hO hA hB hlen hp hkl c p)
  obtain ⟨cA, _⟩ := one_cell gA
  obtain ⟨cC, _⟩ := one_cell gC
  obtain ⟨cD, _⟩ := one_cell gD
  clear ha hO hA hp hkl gA gC gD
  go_enter Tryz.func49, Tryz.ntmps49
  go_wp2_with fail
  go_at_call 50
  refine Calls.mono CC.out ?_
  rintro e w' ⟨r, rfl, h1, h2, h3⟩
  have H1 := (show Hid _ from h1)
  have H2 := (show Hid (r = true → ∃ qs', qs'.map (fun q => q.1) = hangN (qs.map (fun q => q.1)) c.toNat p.toNat ∧ OwnQ B w' (.slice (some ⟨g, 0, none⟩) qs.length cap) qs') from h2)
  clear CC h1 h2
  go_wp2
  go_ret
  exact ⟨r, rfl, H1.out, H2.out, h3⟩

set_option maxHeartbeats 800000 in
set_option maxRecDepth 100000 in
theorem istepTake {B a g cap A C : Nat} {w : World} {qs : List (PNode × (Value × Value))} (ha : w.heap[a]? = some (.cells #[.slice (some ⟨g, 0, none⟩) qs.length cap] 77 (0, 0))) (hO : OwnQ B w (.slice (some ⟨g, 0, none⟩) qs.length cap) qs) (hA : Apart qs) (hB : B ≤ w.heap.size) (hlen : qs.length ≤ 100000)
    (hp : ∀ i (hi : i < qs.length), qs[i].1.parent = -1 ∨ ∃ p : Nat, qs[i].1.parent = p ∧ p < qs.length) (hkl : ∀ q ∈ qs, q.1.kids.length ≤ 1048576) (c : Int)
    (gA : w.heap[A]? = some (.cells #[.pointer (some ⟨a, 0, none⟩)] 64 (0, 0))) (gC : w.heap[C]? = some (.cells #[.int .i64 c] 3 (0, 0))) :
    Calls Tryz.prog 64 #[.pointer (some ⟨A, 0, none⟩), .pointer (some ⟨C, 0, none⟩)] w fun e w' => ∃ r : Bool, e = .returned (.bool r) ∧ (r = true ↔ c ≠ 0 ∧ (0 ≤ c ∧ c < qs.length)) ∧ (r = true → ∃ qs', qs'.map (fun q => q.1) = takeN (qs.map (fun q => q.1)) c.toNat ∧ OwnQ B w' (.slice (some ⟨g, 0, none⟩) qs.length cap) qs') ∧ TurnQ g qs w w' := by
  have CC := (show Hid _ from itake_all ha hO hA hB hlen hp hkl c)
  obtain ⟨cA, _⟩ := one_cell gA
  obtain ⟨cC, _⟩ := one_cell gC
  clear ha hO hA hp hkl gA gC
  go_enter Tryz.func64, Tryz.ntmps64
  go_wp2_with fail
  go_at_call 65
  refine Calls.mono CC.out ?_
  rintro e w' ⟨r, rfl, h1, h2, h3⟩
  have H1 := (show Hid _ from h1)
  have H2 := (show Hid (r = true → ∃ qs', qs'.map (fun q => q.1) = takeN (qs.map (fun q => q.1)) c.toNat ∧ OwnQ B w' (.slice (some ⟨g, 0, none⟩) qs.length cap) qs') from h2)
  clear CC h1 h2
  go_wp2
  go_ret
  exact ⟨r, rfl, H1.out, H2.out, h3⟩

theorem hangN_fit {ns : List PNode} {c p : Nat} (h : ∀ n ∈ ns, NodeFit n ∧ n.kids.length ≤ 1000000) : ∀ n ∈ hangN ns c p, NodeFit n :=
  hangN_all (P := fun n => NodeFit n ∧ n.kids.length ≤ 1000000) h (fun n x h => ⟨⟨h.1.nm, h.1.tx, h.1.rs, h.1.each, h.1.kl⟩, h.2⟩) (fun n x h => ⟨⟨h.1.nm, h.1.tx, h.1.rs, h.1.each, Nat.le_trans (lessL_len _ _) h.1.kl⟩, Nat.le_trans (lessL_len _ _) h.2⟩) (fun n h => h.1) (fun n x h => ⟨h.1.nm, h.1.tx, h.1.rs, h.1.each, by simp [setKids]; omega⟩)
theorem takeN_fit {ns : List PNode} {c : Nat} (h : ∀ n ∈ ns, NodeFit n) : ∀ n ∈ takeN ns c, NodeFit n := by
  have hc : ∀ n ∈ cutN ns c, NodeFit n := by
    intro n hn
    unfold cutN at hn
    split at hn
    · exact h n hn
    · rcases mem_modify hn with hn | ⟨m, hm, rfl⟩
      · exact h n hn
      · have := h m hm; exact ⟨this.nm, this.tx, this.rs, this.each, Nat.le_trans (lessL_len _ _) this.kl⟩
  intro n hn
  rcases mem_modify hn with hn | ⟨m, hm, rfl⟩
  · exact hc n hn
  · have := hc m hm; exact ⟨this.nm, this.tx, this.rs, this.each, this.kl⟩
/-- A node of a right tree has no more Kids than there are nodes. -/
theorem kids_few {ns : List PNode} (h : TreeOkP ns) : ∀ n ∈ ns, n.kids.length ≤ ns.length := by
  intro n hn
  obtain ⟨i, hi, rfl⟩ := List.getElem_of_mem hn
  have hf := h.fit i hi
  rw [kidsOf_at hi] at hf
  exact nodup_le _ _ hf.1 (fun x hx => by have := hf.2 x hx; omega)
end Go.Proofs.YtogdbjafibejdaaGreat

/- The specification's TreeHang: its bool, of every tree (written by mk/streehang.py). No condition. -/
namespace Go.Proofs.YtogdbjafibejdaaGreat
open Go.RowKit
set_option maxRecDepth 100000
set_option linter.unusedVariables false

set_option maxHeartbeats 800000 in
set_option maxRecDepth 100000 in
theorem sopens_b {w : World} {v : Value} {ns : List PNode} (hn : NodesAt w v ns) (hlen : ns.length ≤ 1048576) {p : Nat} (hp : p < ns.length) :
    Calls Tryz.prog 53 #[.agg #[v], .int .i64 (p : Int)] w fun e w' => e = .returned (.bool (opensB ns[p])) ∧ Below w.heap.size w w' := by
  obtain ⟨a, cap, rfl, hc1, hc2, hcs⟩ := hn.slice
  obtain ⟨b, off, av, kv, rfl, hblt, c0, _⟩ := hcs p hp
  have HE : Hid (∀ k : Int, k = ns[p].kind → opensB ns[p] = (decide (k = 1) || decide (k = 3))) := fun k h => by rw [h]; rfl
  obtain ⟨kk, hkk⟩ : ∃ kk, kk = ns[p].kind := ⟨_, rfl⟩
  have HK := (show Hid _ from HE.out kk hkk)
  rw [← hkk] at c0
  clear hcs hn hkk HE
  by_cases h1 : kk = 1
  · subst h1
    go_enter Tryz.func53, Tryz.ntmps53
    go_wp2
    go_ret
    exact ⟨by rw [HK.out]; rfl, (Below.refl _ _).alloc (Nat.le_refl _) _⟩
  · by_cases h3 : kk = 3
    · subst h3
      go_enter Tryz.func53, Tryz.ntmps53
      go_wp2
      go_ret
      exact ⟨by rw [HK.out]; rfl, (Below.refl _ _).alloc (Nat.le_refl _) _⟩
    · go_enter Tryz.func53, Tryz.ntmps53
      go_wp2
      go_ret
      exact ⟨by rw [HK.out]; simp [h1, h3], (Below.refl _ _).alloc (Nat.le_refl _) _⟩

/-- l6Take of any node of a right tree. -/
theorem stake_right {B : Nat} {w : World} {v : Value} {ns : List PNode} (hO : OwnN B w v ns) (hB : B ≤ w.heap.size) (ok : TreeOkP ns) {c : Nat} (hc : c < ns.length) :
    ∃ ms : List PNode, ms.length = ns.length ∧ (∀ p (h : p < ms.length), ms[p].kids.length ≤ 100000) ∧ Calls Tryz.prog 105 #[.agg #[v], .int .i64 c] w fun e w' => e = .returned (.agg #[v]) ∧ OwnN B w' v ms ∧ w.grownBy w' v.ownBlock := by
  have hm := ok.most
  have few : ∀ n ∈ ns, n.kids.length ≤ 100000 := fun n hn => by have := kids_few ok n hn; omega
  have hpc := parOf_at hc
  rcases par_ok ok hc with h | ⟨p, h, hp⟩
  · refine ⟨ns, rfl, fun p h => few _ (List.getElem_mem h), ?_⟩
    refine Calls.mono (stake_none hO.nodes (by omega) hc (by omega)) ?_
    rintro e w' ⟨rfl, b⟩
    refine ⟨rfl, hO.below b, ⟨b.os, b.tape, b.output, b.size, fun r hr _ => b.block r hr⟩⟩
  · refine ⟨parN (lessN ns c p) c (-1), by simp [parN, lessN], fun q hq => ?_, stake_all hO hB (by omega) hc hp (by omega) (few _ (List.getElem_mem hp))⟩
    have hq' : q < ns.length := by simpa [parN, lessN] using hq
    have h1 := few _ (List.getElem_mem hq')
    have h2 := lessL_len (c : Int) ns[q].kids
    simp only [parN, lessN, List.getElem_modify]
    split <;> split <;> simp <;> omega

/-- l6Hang of any node of a right tree: no panic. -/
theorem shang_right {B : Nat} {w : World} {v : Value} {ns : List PNode} (hO : OwnN B w v ns) (hB : B ≤ w.heap.size) (ok : TreeOkP ns) {c p : Nat} (hc : c < ns.length) (hp : p < ns.length) :
    Calls Tryz.prog 56 #[.agg #[v], .int .i64 c, .int .i64 p] w fun e w' => e = .returned (.agg #[v]) ∧ w.grownBy w' v.ownBlock := by
  have hm := ok.most
  have H : ∃ ms : List PNode, ms.length = ns.length ∧ (∀ p (h : p < ms.length), ms[p].kids.length ≤ 100000) ∧ ∀ W, Below w.heap.size w W → Calls Tryz.prog 105 #[.agg #[v], .int .i64 c] W fun e w' => e = .returned (.agg #[v]) ∧ OwnN B w' v ms ∧ W.grownBy w' v.ownBlock := by
    have few : ∀ n ∈ ns, n.kids.length ≤ 100000 := fun n hn => by have := kids_few ok n hn; omega
    have hpc := parOf_at hc
    rcases par_ok ok hc with h | ⟨q, h, hq⟩
    · refine ⟨ns, rfl, fun p h => few _ (List.getElem_mem h), fun W bW => ?_⟩
      refine Calls.mono (stake_none (hO.below bW).nodes (by omega) hc (by omega)) ?_
      rintro e w' ⟨rfl, b⟩
      exact ⟨rfl, (hO.below bW).below b, ⟨b.os, b.tape, b.output, b.size, fun r hr _ => b.block r hr⟩⟩
    · refine ⟨parN (lessN ns c q) c (-1), by simp [parN, lessN], fun i hi => ?_, fun W bW => stake_all (hO.below bW) (Nat.le_trans hB bW.size) (by omega) hc hq (by omega) (few _ (List.getElem_mem hq))⟩
      have hi' : i < ns.length := by simpa [parN, lessN] using hi
      have h1 := few _ (List.getElem_mem hi')
      have h2 := lessL_len (c : Int) ns[i].kids
      simp only [parN, lessN, List.getElem_modify]
      split <;> split <;> simp <;> omega
  obtain ⟨ms, h1, h2, h3⟩ := H
  refine Calls.mono (shang_all hO h1.symm hB (by omega) (c := c) (p := p) (by omega) (by omega) (h2 p (by omega)) h3) ?_
  rintro e w' ⟨rfl, _, hg⟩
  exact ⟨rfl, hg⟩

theorem STreeHang_res {tmps : Array Value} {w : World} {g : Nat} {u : Value} {i : Bool} (h4 : tmps.getD 6 undef = .pointer (some ⟨g, 0, none⟩)) (h5 : tmps.getD 7 undef = .bool i) (hb : w.heap[g]? = some (.cells #[u] 26 (0, 0))) :
    (results Tryz.f13 tmps).run Tryz.prog w = .ok (.tuple #[.agg #[u], .bool i]) w := by
  rw [results_cell_tmp (p := 6) (u := 7) (ty := 26) rfl, h4, h5]
  simp [asAddr, run_loadVar_row w g 26 26 #[u] (0, 0) _ hb Tryz.underlying26 rfl rfl, Result.andThen]

/-- When the specification hangs a node. -/
def HangB (ns : List PNode) (c p : Int) : Prop := STreeOkP ns ∧ (0 ≤ c ∧ c < ns.length) ∧ (0 ≤ p ∧ p < ns.length) ∧ c ≠ 0 ∧ (∃ h : p.toNat < ns.length, opensB ns[p.toNat] = true) ∧ ¬ ∃ d, belD ns c.toNat d p.toNat

set_option maxHeartbeats 2000000 in
set_option maxRecDepth 100000 in
theorem streeHang_any {w : World} {v : Value} {ns : List PNode} (hn : NodesAt w v ns) (hfit : ∀ n ∈ ns, NodeFit n) (hlen : ns.length ≤ 1048576) (c p : Int) :
    Calls Tryz.prog 13 #[.agg #[v], .int .i64 c, .int .i64 p] w fun e w' => ∃ (ua : Option Addr) (un uc : Nat) (r : Bool), e = .returned (.tuple #[.agg #[.slice ua un uc], .bool r]) ∧ (r = true ↔ HangB ns c p) ∧ Below w.heap.size w w' := by
  have HFIT := (show Hid (∀ n ∈ ns, NodeFit n) from hfit)
  have HN := (show Hid (NodesAt w v ns) from hn)
  obtain ⟨a, cap, rfl, hc1, hc2, hcs⟩ := hn.slice
  clear hcs hn hfit
  obtain ⟨w2, hw2⟩ : ∃ w2, w2 = (w.alloc (.cells #[.slice a ns.length cap] 26)).alloc (.cells #[.slice none 0 0] 26) := ⟨_, rfl⟩
  have b2 : Below w.heap.size w w2 := by rw [hw2]; exact ((Below.refl _ w).alloc (Nat.le_refl _) _).alloc (by simp) _
  have gT2 : w2.heap[w.heap.size]? = some (.cells #[.slice a ns.length cap] 26 (0, 0)) := by
    rw [hw2, Below.heap_alloc _ _ _ (by simp)]; exact World.alloc_heap_new _ _
  have gR2 : w2.heap[w.heap.size + 1]? = some (.cells #[.slice none 0 0] 26 (0, 0)) := by
    rw [hw2]
    have := World.alloc_heap_new (w.alloc (.cells #[.slice a ns.length cap] 26)) (.cells #[.slice none 0 0] 26)
    rwa [World.size_alloc] at this
  have GT2 := (show Hid _ from gT2)
  have GR2 := (show Hid _ from gR2)
  have cT2 := (one_cell gT2).1
  have cR2 := (one_cell gR2).1
  have zR2 := (one_cell gR2).2
  have BW2 := (show Hid (Below w.heap.size w w2) from b2)
  have CO : Hid (∀ W, Below w.heap.size w W → Calls Tryz.prog 14 #[.agg #[.slice a ns.length cap]] W fun e w' => ∃ r, e = .returned (.bool r) ∧ (r = true ↔ STreeOkP ns) ∧ Below W.heap.size W w') := fun W bW => streeOk_any (HN.out.below bW) HFIT.out hlen
  clear gT2 gR2 b2
  go_enter Tryz.func13, Tryz.ntmps13
  go_upto_region 1 with fail
  rw [← hw2]
  clear hw2
  go_wp2_with fail
  go_at_call 14
  refine Calls.mono (CO.out w2 BW2.out) ?_
  rintro e w3 ⟨ro, rfl, hro, b3⟩
  have gT3 := (b3.block _ (blk_lt GT2.out)).trans GT2.out
  have gR3 := (b3.block _ (blk_lt GR2.out)).trans GR2.out
  have GT3 := (show Hid _ from gT3)
  have GR3 := (show Hid _ from gR3)
  have cT3 := (one_cell gT3).1
  have cR3 := (one_cell gR3).1
  have zR3 := (one_cell gR3).2
  have BW3 := (show Hid (Below w.heap.size w w3) from BW2.out.trans (b3.mono BW2.out.size))
  clear gT3 gR3 b3 GT2 GR2 BW2 cT2 cR2 zR2
  have HRO := (show Hid (ro = true ↔ STreeOkP ns) from hro)
  clear hro CO
  cases ro with
  | false =>
    go_wp2
    refine bodyPost_ret (STreeHang_res rfl rfl (setCell_at GR3.out)) rfl ?_
    exact ⟨_, _, _, false, rfl, ⟨fun h => (by cases h), fun h => HRO.out.mpr h.1⟩, BW3.out.setCell (p := ⟨w.heap.size + 1, 0, none⟩) (by simp) _⟩
  | true =>
    have HOK := (show Hid (STreeOkP ns) from HRO.out.mp rfl)
    clear HRO
    have CC : Hid (∀ W, Below w.heap.size w W → Calls Tryz.prog 55 #[.agg #[.slice a ns.length cap]] W fun e w' => ∃ v', e = .returned (.agg #[v']) ∧ OwnN W.heap.size w' v' ns ∧ Below W.heap.size W w') := fun W bW => scopy_any (HN.out.below bW) HFIT.out hlen
    by_cases h1 : 0 ≤ c ∧ c < ns.length
    rotate_left
    · have HNO : Hid (¬ HangB ns c p) := fun h => h1 h.2.1
      go_wp2_with fail
      go_at_call 52
      refine Calls.mono (show Calls Tryz.prog 52 #[.agg #[.slice a ns.length cap], .int .i64 c] w3 fun e w' => e = .returned (.bool false) ∧ Below w3.heap.size w3 w' from by have h := shas_any (w := w3) (a := a) (cap := cap) (n := ns.length) c hlen; rw [inB_no (by omega)] at h; exact h) ?_
      rintro e w4 ⟨rfl, b4⟩
      have gT4 := (b4.block _ (blk_lt GT3.out)).trans GT3.out
      have gR4 := (b4.block _ (blk_lt GR3.out)).trans GR3.out
      have GT4 := (show Hid _ from gT4)
      have GR4 := (show Hid _ from gR4)
      have cT4 := (one_cell gT4).1
      have cR4 := (one_cell gR4).1
      have zR4 := (one_cell gR4).2
      have BW4 := (show Hid (Below w.heap.size w w4) from BW3.out.trans (b4.mono BW3.out.size))
      clear gT4 gR4 b4 GT3 GR3 BW3 cT3 cR3 zR3
      go_wp2_with fail
      go_at_call 55
      refine Calls.mono (CC.out w4 BW4.out) ?_
      rintro e w5 ⟨v', rfl, own, b5⟩
      obtain ⟨va, vc, rfl, _, _, _⟩ := own.nodes.slice
      clear own
      have gT5 := (b5.block _ (blk_lt GT4.out)).trans GT4.out
      have gR5 := (b5.block _ (blk_lt GR4.out)).trans GR4.out
      have GT5 := (show Hid _ from gT5)
      have GR5 := (show Hid _ from gR5)
      have cT5 := (one_cell gT5).1
      have cR5 := (one_cell gR5).1
      have zR5 := (one_cell gR5).2
      have BW5 := (show Hid (Below w.heap.size w w5) from BW4.out.trans (b5.mono BW4.out.size))
      clear gT5 gR5 b5 GT4 GR4 BW4 cT4 cR4 zR4
      go_wp2
      refine bodyPost_ret (STreeHang_res rfl rfl (setCell_at GR5.out)) rfl ?_
      exact ⟨_, _, _, false, rfl, ⟨fun h => (by cases h), fun h => absurd h HNO.out⟩, BW5.out.setCell (p := ⟨w.heap.size + 1, 0, none⟩) (by simp) _⟩
    by_cases h2 : 0 ≤ p ∧ p < ns.length
    rotate_left
    · have HNO : Hid (¬ HangB ns c p) := fun h => h2 h.2.2.1
      go_wp2_with fail
      go_at_call 52
      refine Calls.mono (show Calls Tryz.prog 52 #[.agg #[.slice a ns.length cap], .int .i64 c] w3 fun e w' => e = .returned (.bool true) ∧ Below w3.heap.size w3 w' from by have h := shas_any (w := w3) (a := a) (cap := cap) (n := ns.length) c hlen; rw [inB_yes (by omega) (by omega)] at h; exact h) ?_
      rintro e w4 ⟨rfl, b4⟩
      have gT4 := (b4.block _ (blk_lt GT3.out)).trans GT3.out
      have gR4 := (b4.block _ (blk_lt GR3.out)).trans GR3.out
      have GT4 := (show Hid _ from gT4)
      have GR4 := (show Hid _ from gR4)
      have cT4 := (one_cell gT4).1
      have cR4 := (one_cell gR4).1
      have zR4 := (one_cell gR4).2
      have BW4 := (show Hid (Below w.heap.size w w4) from BW3.out.trans (b4.mono BW3.out.size))
      clear gT4 gR4 b4 GT3 GR3 BW3 cT3 cR3 zR3
      go_wp2_with fail
      go_at_call 52
      refine Calls.mono (show Calls Tryz.prog 52 #[.agg #[.slice a ns.length cap], .int .i64 p] w4 fun e w' => e = .returned (.bool false) ∧ Below w4.heap.size w4 w' from by have h := shas_any (w := w4) (a := a) (cap := cap) (n := ns.length) p hlen; rw [inB_no (by omega)] at h; exact h) ?_
      rintro e w5 ⟨rfl, b5⟩
      have gT5 := (b5.block _ (blk_lt GT4.out)).trans GT4.out
      have gR5 := (b5.block _ (blk_lt GR4.out)).trans GR4.out
      have GT5 := (show Hid _ from gT5)
      have GR5 := (show Hid _ from gR5)
      have cT5 := (one_cell gT5).1
      have cR5 := (one_cell gR5).1
      have zR5 := (one_cell gR5).2
      have BW5 := (show Hid (Below w.heap.size w w5) from BW4.out.trans (b5.mono BW4.out.size))
      clear gT5 gR5 b5 GT4 GR4 BW4 cT4 cR4 zR4
      go_wp2_with fail
      go_at_call 55
      refine Calls.mono (CC.out w5 BW5.out) ?_
      rintro e w6 ⟨v', rfl, own, b6⟩
      obtain ⟨va, vc, rfl, _, _, _⟩ := own.nodes.slice
      clear own
      have gT6 := (b6.block _ (blk_lt GT5.out)).trans GT5.out
      have gR6 := (b6.block _ (blk_lt GR5.out)).trans GR5.out
      have GT6 := (show Hid _ from gT6)
      have GR6 := (show Hid _ from gR6)
      have cT6 := (one_cell gT6).1
      have cR6 := (one_cell gR6).1
      have zR6 := (one_cell gR6).2
      have BW6 := (show Hid (Below w.heap.size w w6) from BW5.out.trans (b6.mono BW5.out.size))
      clear gT6 gR6 b6 GT5 GR5 BW5 cT5 cR5 zR5
      go_wp2
      refine bodyPost_ret (STreeHang_res rfl rfl (setCell_at GR6.out)) rfl ?_
      exact ⟨_, _, _, false, rfl, ⟨fun h => (by cases h), fun h => absurd h HNO.out⟩, BW6.out.setCell (p := ⟨w.heap.size + 1, 0, none⟩) (by simp) _⟩
    by_cases h3 : c = 0
    · have HNO : Hid (¬ HangB ns c p) := fun h => h.2.2.2.1 h3
      subst h3
      go_wp2_with fail
      go_at_call 52
      refine Calls.mono (show Calls Tryz.prog 52 #[.agg #[.slice a ns.length cap], .int .i64 0] w3 fun e w' => e = .returned (.bool true) ∧ Below w3.heap.size w3 w' from by have h := shas_any (w := w3) (a := a) (cap := cap) (n := ns.length) 0 hlen; rw [inB_yes (by omega) (by omega)] at h; exact h) ?_
      rintro e w4 ⟨rfl, b4⟩
      have gT4 := (b4.block _ (blk_lt GT3.out)).trans GT3.out
      have gR4 := (b4.block _ (blk_lt GR3.out)).trans GR3.out
      have GT4 := (show Hid _ from gT4)
      have GR4 := (show Hid _ from gR4)
      have cT4 := (one_cell gT4).1
      have cR4 := (one_cell gR4).1
      have zR4 := (one_cell gR4).2
      have BW4 := (show Hid (Below w.heap.size w w4) from BW3.out.trans (b4.mono BW3.out.size))
      clear gT4 gR4 b4 GT3 GR3 BW3 cT3 cR3 zR3
      go_wp2_with fail
      go_at_call 52
      refine Calls.mono (show Calls Tryz.prog 52 #[.agg #[.slice a ns.length cap], .int .i64 p] w4 fun e w' => e = .returned (.bool true) ∧ Below w4.heap.size w4 w' from by have h := shas_any (w := w4) (a := a) (cap := cap) (n := ns.length) p hlen; rw [inB_yes (by omega) (by omega)] at h; exact h) ?_
      rintro e w5 ⟨rfl, b5⟩
      have gT5 := (b5.block _ (blk_lt GT4.out)).trans GT4.out
      have gR5 := (b5.block _ (blk_lt GR4.out)).trans GR4.out
      have GT5 := (show Hid _ from gT5)
      have GR5 := (show Hid _ from gR5)
      have cT5 := (one_cell gT5).1
      have cR5 := (one_cell gR5).1
      have zR5 := (one_cell gR5).2
      have BW5 := (show Hid (Below w.heap.size w w5) from BW4.out.trans (b5.mono BW4.out.size))
      clear gT5 gR5 b5 GT4 GR4 BW4 cT4 cR4 zR4
      go_wp2_with fail
      go_at_call 55
      refine Calls.mono (CC.out w5 BW5.out) ?_
      rintro e w6 ⟨v', rfl, own, b6⟩
      obtain ⟨va, vc, rfl, _, _, _⟩ := own.nodes.slice
      clear own
      have gT6 := (b6.block _ (blk_lt GT5.out)).trans GT5.out
      have gR6 := (b6.block _ (blk_lt GR5.out)).trans GR5.out
      have GT6 := (show Hid _ from gT6)
      have GR6 := (show Hid _ from gR6)
      have cT6 := (one_cell gT6).1
      have cR6 := (one_cell gR6).1
      have zR6 := (one_cell gR6).2
      have BW6 := (show Hid (Below w.heap.size w w6) from BW5.out.trans (b6.mono BW5.out.size))
      clear gT6 gR6 b6 GT5 GR5 BW5 cT5 cR5 zR5
      go_wp2
      refine bodyPost_ret (STreeHang_res rfl rfl (setCell_at GR6.out)) rfl ?_
      exact ⟨_, _, _, false, rfl, ⟨fun h => (by cases h), fun h => absurd h HNO.out⟩, BW6.out.setCell (p := ⟨w.heap.size + 1, 0, none⟩) (by simp) _⟩
    obtain ⟨cn, rfl⟩ : ∃ cn : Nat, c = cn := ⟨c.toNat, by omega⟩
    obtain ⟨pn, rfl⟩ : ∃ pn : Nat, p = pn := ⟨p.toNat, by omega⟩
    have hcn : cn < ns.length := by omega
    have hpn : pn < ns.length := by omega
    cases hop : opensB ns[pn] with
    | false =>
      have HOP := (show Hid (opensB ns[pn] = false) from hop)
      have HNO : Hid (¬ HangB ns (cn : Int) (pn : Int)) := fun h => by
        obtain ⟨_, h'⟩ := h.2.2.2.2.1
        simp [hop] at h'
      clear hop
      go_wp2_with fail
      go_at_call 52
      refine Calls.mono (show Calls Tryz.prog 52 #[.agg #[.slice a ns.length cap], .int .i64 (cn : Int)] w3 fun e w' => e = .returned (.bool true) ∧ Below w3.heap.size w3 w' from by have h := shas_any (w := w3) (a := a) (cap := cap) (n := ns.length) (cn : Int) hlen; rw [inB_yes (by omega) (by omega)] at h; exact h) ?_
      rintro e w4 ⟨rfl, b4⟩
      have gT4 := (b4.block _ (blk_lt GT3.out)).trans GT3.out
      have gR4 := (b4.block _ (blk_lt GR3.out)).trans GR3.out
      have GT4 := (show Hid _ from gT4)
      have GR4 := (show Hid _ from gR4)
      have cT4 := (one_cell gT4).1
      have cR4 := (one_cell gR4).1
      have zR4 := (one_cell gR4).2
      have BW4 := (show Hid (Below w.heap.size w w4) from BW3.out.trans (b4.mono BW3.out.size))
      clear gT4 gR4 b4 GT3 GR3 BW3 cT3 cR3 zR3
      go_wp2_with fail
      go_at_call 52
      refine Calls.mono (show Calls Tryz.prog 52 #[.agg #[.slice a ns.length cap], .int .i64 (pn : Int)] w4 fun e w' => e = .returned (.bool true) ∧ Below w4.heap.size w4 w' from by have h := shas_any (w := w4) (a := a) (cap := cap) (n := ns.length) (pn : Int) hlen; rw [inB_yes (by omega) (by omega)] at h; exact h) ?_
      rintro e w5 ⟨rfl, b5⟩
      have gT5 := (b5.block _ (blk_lt GT4.out)).trans GT4.out
      have gR5 := (b5.block _ (blk_lt GR4.out)).trans GR4.out
      have GT5 := (show Hid _ from gT5)
      have GR5 := (show Hid _ from gR5)
      have cT5 := (one_cell gT5).1
      have cR5 := (one_cell gR5).1
      have zR5 := (one_cell gR5).2
      have BW5 := (show Hid (Below w.heap.size w w5) from BW4.out.trans (b5.mono BW4.out.size))
      clear gT5 gR5 b5 GT4 GR4 BW4 cT4 cR4 zR4
      go_wp2_with fail
      go_at_call 53
      refine Calls.mono (show Calls Tryz.prog 53 #[.agg #[.slice a ns.length cap], .int .i64 (pn : Int)] w5 fun e w' => e = .returned (.bool false) ∧ Below w5.heap.size w5 w' from by have h := sopens_b (HN.out.below BW5.out) hlen hpn; rw [HOP.out] at h; exact h) ?_
      rintro e w6 ⟨rfl, b6⟩
      have gT6 := (b6.block _ (blk_lt GT5.out)).trans GT5.out
      have gR6 := (b6.block _ (blk_lt GR5.out)).trans GR5.out
      have GT6 := (show Hid _ from gT6)
      have GR6 := (show Hid _ from gR6)
      have cT6 := (one_cell gT6).1
      have cR6 := (one_cell gR6).1
      have zR6 := (one_cell gR6).2
      have BW6 := (show Hid (Below w.heap.size w w6) from BW5.out.trans (b6.mono BW5.out.size))
      clear gT6 gR6 b6 GT5 GR5 BW5 cT5 cR5 zR5
      go_wp2_with fail
      go_at_call 55
      refine Calls.mono (CC.out w6 BW6.out) ?_
      rintro e w7 ⟨v', rfl, own, b7⟩
      obtain ⟨va, vc, rfl, _, _, _⟩ := own.nodes.slice
      clear own
      have gT7 := (b7.block _ (blk_lt GT6.out)).trans GT6.out
      have gR7 := (b7.block _ (blk_lt GR6.out)).trans GR6.out
      have GT7 := (show Hid _ from gT7)
      have GR7 := (show Hid _ from gR7)
      have cT7 := (one_cell gT7).1
      have cR7 := (one_cell gR7).1
      have zR7 := (one_cell gR7).2
      have BW7 := (show Hid (Below w.heap.size w w7) from BW6.out.trans (b7.mono BW6.out.size))
      clear gT7 gR7 b7 GT6 GR6 BW6 cT6 cR6 zR6
      go_wp2
      refine bodyPost_ret (STreeHang_res rfl rfl (setCell_at GR7.out)) rfl ?_
      exact ⟨_, _, _, false, rfl, ⟨fun h => (by cases h), fun h => absurd h HNO.out⟩, BW7.out.setCell (p := ⟨w.heap.size + 1, 0, none⟩) (by simp) _⟩
    | true =>
      have HOP := (show Hid (opensB ns[pn] = true) from hop)
      clear hop
      go_wp2_with fail
      go_at_call 52
      refine Calls.mono (show Calls Tryz.prog 52 #[.agg #[.slice a ns.length cap], .int .i64 (cn : Int)] w3 fun e w' => e = .returned (.bool true) ∧ Below w3.heap.size w3 w' from by have h := shas_any (w := w3) (a := a) (cap := cap) (n := ns.length) (cn : Int) hlen; rw [inB_yes (by omega) (by omega)] at h; exact h) ?_
      rintro e w4 ⟨rfl, b4⟩
      have gT4 := (b4.block _ (blk_lt GT3.out)).trans GT3.out
      have gR4 := (b4.block _ (blk_lt GR3.out)).trans GR3.out
      have GT4 := (show Hid _ from gT4)
      have GR4 := (show Hid _ from gR4)
      have cT4 := (one_cell gT4).1
      have cR4 := (one_cell gR4).1
      have zR4 := (one_cell gR4).2
      have BW4 := (show Hid (Below w.heap.size w w4) from BW3.out.trans (b4.mono BW3.out.size))
      clear gT4 gR4 b4 GT3 GR3 BW3 cT3 cR3 zR3
      go_wp2_with fail
      go_at_call 52
      refine Calls.mono (show Calls Tryz.prog 52 #[.agg #[.slice a ns.length cap], .int .i64 (pn : Int)] w4 fun e w' => e = .returned (.bool true) ∧ Below w4.heap.size w4 w' from by have h := shas_any (w := w4) (a := a) (cap := cap) (n := ns.length) (pn : Int) hlen; rw [inB_yes (by omega) (by omega)] at h; exact h) ?_
      rintro e w5 ⟨rfl, b5⟩
      have gT5 := (b5.block _ (blk_lt GT4.out)).trans GT4.out
      have gR5 := (b5.block _ (blk_lt GR4.out)).trans GR4.out
      have GT5 := (show Hid _ from gT5)
      have GR5 := (show Hid _ from gR5)
      have cT5 := (one_cell gT5).1
      have cR5 := (one_cell gR5).1
      have zR5 := (one_cell gR5).2
      have BW5 := (show Hid (Below w.heap.size w w5) from BW4.out.trans (b5.mono BW4.out.size))
      clear gT5 gR5 b5 GT4 GR4 BW4 cT4 cR4 zR4
      go_wp2_with fail
      go_at_call 53
      refine Calls.mono (show Calls Tryz.prog 53 #[.agg #[.slice a ns.length cap], .int .i64 (pn : Int)] w5 fun e w' => e = .returned (.bool true) ∧ Below w5.heap.size w5 w' from by have h := sopens_b (HN.out.below BW5.out) hlen hpn; rw [HOP.out] at h; exact h) ?_
      rintro e w6 ⟨rfl, b6⟩
      have gT6 := (b6.block _ (blk_lt GT5.out)).trans GT5.out
      have gR6 := (b6.block _ (blk_lt GR5.out)).trans GR5.out
      have GT6 := (show Hid _ from gT6)
      have GR6 := (show Hid _ from gR6)
      have cT6 := (one_cell gT6).1
      have cR6 := (one_cell gR6).1
      have zR6 := (one_cell gR6).2
      have BW6 := (show Hid (Below w.heap.size w w6) from BW5.out.trans (b6.mono BW5.out.size))
      clear gT6 gR6 b6 GT5 GR5 BW5 cT5 cR5 zR5
      go_wp2_with fail
      go_at_call 54
      refine Calls.mono (sbelow_any (HN.out.below BW6.out) hlen HOK.out.1 hpn hcn) ?_
      rintro e w7 ⟨rb, rfl, hrb, b7⟩
      have gT7 := (b7.block _ (blk_lt GT6.out)).trans GT6.out
      have gR7 := (b7.block _ (blk_lt GR6.out)).trans GR6.out
      have GT7 := (show Hid _ from gT7)
      have GR7 := (show Hid _ from gR7)
      have cT7 := (one_cell gT7).1
      have cR7 := (one_cell gR7).1
      have zR7 := (one_cell gR7).2
      have BW7 := (show Hid (Below w.heap.size w w7) from BW6.out.trans (b7.mono BW6.out.size))
      clear gT7 gR7 b7 GT6 GR6 BW6 cT6 cR6 zR6
      have HRB := (show Hid (rb = true ↔ ∃ d, belD ns cn d pn) from hrb)
      clear hrb
      cases rb with
      | true =>
        have HNO : Hid (¬ HangB ns (cn : Int) (pn : Int)) := fun h => h.2.2.2.2.2 (by simpa using HRB.out.mp rfl)
        go_wp2_with fail
        go_at_call 55
        refine Calls.mono (CC.out w7 BW7.out) ?_
        rintro e w8 ⟨v', rfl, own, b8⟩
        obtain ⟨va, vc, rfl, _, _, _⟩ := own.nodes.slice
        clear own
        have gT8 := (b8.block _ (blk_lt GT7.out)).trans GT7.out
        have gR8 := (b8.block _ (blk_lt GR7.out)).trans GR7.out
        have GT8 := (show Hid _ from gT8)
        have GR8 := (show Hid _ from gR8)
        have cT8 := (one_cell gT8).1
        have cR8 := (one_cell gR8).1
        have zR8 := (one_cell gR8).2
        have BW8 := (show Hid (Below w.heap.size w w8) from BW7.out.trans (b8.mono BW7.out.size))
        clear gT8 gR8 b8 GT7 GR7 BW7 cT7 cR7 zR7
        go_wp2
        refine bodyPost_ret (STreeHang_res rfl rfl (setCell_at GR8.out)) rfl ?_
        exact ⟨_, _, _, false, rfl, ⟨fun h => (by cases h), fun h => absurd h HNO.out⟩, BW8.out.setCell (p := ⟨w.heap.size + 1, 0, none⟩) (by simp) _⟩
      | false =>
        have HYES : Hid (HangB ns (cn : Int) (pn : Int)) := ⟨HOK.out, h1, h2, h3, ⟨by simpa using hpn, by simpa using HOP.out⟩, fun h => by have := HRB.out.mpr (by simpa using h); cases this⟩
        go_wp2_with fail
        go_at_call 55
        refine Calls.mono (CC.out w7 BW7.out) ?_
        rintro e w8 ⟨v', rfl, own, b8⟩
        obtain ⟨va, vc, rfl, _, _, _⟩ := own.nodes.slice
        have gT8 := (b8.block _ (blk_lt GT7.out)).trans GT7.out
        have gR8 := (b8.block _ (blk_lt GR7.out)).trans GR7.out
        have GT8 := (show Hid _ from gT8)
        have GR8 := (show Hid _ from gR8)
        have cT8 := (one_cell gT8).1
        have cR8 := (one_cell gR8).1
        have zR8 := (one_cell gR8).2
        have BW8 := (show Hid (Below w.heap.size w w8) from BW7.out.trans (b8.mono BW7.out.size))
        have OWN := (show Hid (OwnN w7.heap.size w8 (.slice va ns.length vc) ns) from own)
        have HSZ := (show Hid (w7.heap.size ≤ w8.heap.size) from b8.size)
        have HLE := (show Hid (w.heap.size ≤ w7.heap.size) from BW7.out.size)
        have HRL := (show Hid (w.heap.size + 1 < w7.heap.size) from blk_lt GR7.out)
        clear own gT8 gR8 b8 GT7 GR7 BW7 cT7 cR7 zR7
        go_wp2_with fail
        go_at_call 56
        refine Calls.mono (shang_right OWN.out HSZ.out HOK.out.1 hcn hpn) ?_
        rintro e wz ⟨rfl, gz⟩
        have hown : ∀ r, (Value.slice va ns.length vc).ownBlock = some r → w7.heap.size ≤ r := fun r e => (World.ownsRow.lt OWN.out.row r e).1
        have gRz := (gz.block _ (blk_lt GR8.out) (fun e => by have := hown _ e.symm; have := HRL.out; omega)).trans GR8.out
        have GRz := (show Hid _ from gRz)
        have cRz := (one_cell gRz).1
        have zRz := (one_cell gRz).2
        have BWz := (show Hid (Below w.heap.size w wz) from BW8.out.grown gz BW8.out.size (fun r e => by have := hown r e; have := HLE.out; omega))
        clear gRz gz hown cT8 cR8 zR8
        go_wp2
        refine bodyPost_ret (STreeHang_res rfl rfl (setCell_at GRz.out)) rfl ?_
        exact ⟨_, _, _, true, rfl, ⟨fun _ => HYES.out, fun _ => rfl⟩, BWz.out.setCell (p := ⟨w.heap.size + 1, 0, none⟩) (by simp) _⟩
end Go.Proofs.YtogdbjafibejdaaGreat

/- The program's TreeAdd of a tree that is right. No condition. -/
namespace Go.Proofs.YtogdbjafibejdaaGreat
open Go.RowKit
set_option maxRecDepth 100000
set_option linter.unusedVariables false

theorem iadd_res {tmps : Array Value} {w : World} {g : Nat} {a : Option Addr} {n c : Nat} {i : Int} (h4 : tmps.getD 4 undef = .pointer (some ⟨g, 0, none⟩)) (h5 : tmps.getD 5 undef = .int .i64 i) (hb : w.heap[g]? = some (.cells #[.slice a n c] 26 (0, 0))) :
    (results Tryz.f23 tmps).run Tryz.prog w = .ok (.tuple #[.agg #[.slice a n c], .int .i64 i]) w := by
  rw [results_cell_tmp (p := 4) (u := 5) (ty := 26) rfl, h4, h5]
  simp [asAddr, run_loadVar_row w g 26 26 #[.slice a n c] (0, 0) _ hb Tryz.underlying26 rfl rfl, Result.andThen]

set_option maxHeartbeats 2000000 in
set_option maxRecDepth 100000 in
theorem itreeAdd_any {w : World} {v : Value} {ns : List PNode} (hn : NodesAt w v ns) (hfit : ∀ n ∈ ns, NodeFit n) (hok : TreeOkP ns) {k p : Int} {nm tx : ByteArray}
    {av1 : Option Addr} {av2 av3 : Nat} {kv1 : Option Addr} {kv2 kv3 : Nat} {rs : List (ByteArray × ByteArray)} (hav : Sv 2 w (.slice av1 av2 av3) (pairCells rs)) (hrs : rs.length ≤ 1048576) (hfn : NodeFit ⟨k, nm, rs, tx, -1, []⟩) :
    Calls Tryz.prog 23 #[.agg #[v], .agg #[.int .i64 k, .string nm, .slice av1 av2 av3, .string tx, .int .i64 p, .slice kv1 kv2 kv3]] w fun e w' => ∃ v' r, e = .returned (.tuple #[.agg #[v'], .int .i64 r]) ∧ (TreeOkP (ns ++ [⟨k, nm, rs, tx, -1, []⟩]) → r = ns.length ∧ NodesAt w' v' (ns ++ [⟨k, nm, rs, tx, -1, []⟩])) ∧ (¬ TreeOkP (ns ++ [⟨k, nm, rs, tx, -1, []⟩]) → r = -1) ∧ Below w.heap.size w w' := by
  have hmf : ∀ (fn : Fn) (first cap : Array Value) (w : World), (Instr.makeFunc fn first cap).run Tryz.prog w = .ok (.func fn first cap) w := fun _ _ _ _ => rfl
  have HN := (show Hid (NodesAt w v ns) from hn)
  have HFIT := (show Hid (∀ n ∈ ns, NodeFit n) from hfit)
  have HOK := (show Hid (TreeOkP ns) from hok)
  have HAV := (show Hid (Sv 2 w (.slice av1 av2 av3) (pairCells rs)) from hav)
  have HFN := (show Hid (NodeFit ⟨k, nm, rs, tx, -1, []⟩) from hfn)
  have h1 := hok.one
  have h5 := hok.most
  obtain ⟨a, cap, rfl, hc1, hc2, _⟩ := hn.slice
  clear hn hfit hok hav hfn
  obtain ⟨w1, hw1⟩ : ∃ x, x = ((w.alloc (.cells #[.slice a ns.length cap] 26)).alloc (.cells #[.int .i64 k, .string nm, .slice av1 av2 av3, .string tx, .int .i64 p, .slice kv1 kv2 kv3] 36)).alloc (.cells #[.slice none 0 0] 26) := ⟨_, rfl⟩
  have b1 : Below w.heap.size w w1 := by rw [hw1]; exact (((Below.refl _ w).alloc (Nat.le_refl _) _).alloc (by simp) _).alloc (by simp; omega) _
  have hs1 : w1.heap.size = w.heap.size + 1 + 1 + 1 := by rw [hw1, World.size_alloc, World.size_alloc, World.size_alloc]
  have gT : w1.heap[w.heap.size]? = some (.cells #[.slice a ns.length cap] 26 (0, 0)) := by rw [hw1, Below.heap_alloc _ _ _ (by simp only [World.size_alloc]; omega), Below.heap_alloc _ _ _ (by simp)]; exact World.alloc_heap_new _ _
  have gN : w1.heap[w.heap.size + 1]? = some (.cells #[.int .i64 k, .string nm, .slice av1 av2 av3, .string tx, .int .i64 p, .slice kv1 kv2 kv3] 36 (0, 0)) := by
    rw [hw1, Below.heap_alloc _ _ _ (by simp)]
    have := World.alloc_heap_new (w.alloc (.cells #[.slice a ns.length cap] 26)) (.cells #[.int .i64 k, .string nm, .slice av1 av2 av3, .string tx, .int .i64 p, .slice kv1 kv2 kv3] 36)
    rwa [World.size_alloc] at this
  have gR : w1.heap[w.heap.size + 1 + 1]? = some (.cells #[.slice none 0 0] 26 (0, 0)) := by
    rw [hw1]
    have := World.alloc_heap_new ((w.alloc (.cells #[.slice a ns.length cap] 26)).alloc (.cells #[.int .i64 k, .string nm, .slice av1 av2 av3, .string tx, .int .i64 p, .slice kv1 kv2 kv3] 36)) (.cells #[.slice none 0 0] 26)
    rwa [World.size_alloc, World.size_alloc] at this
  have GN := (show Hid _ from gN)
  have GR := (show Hid _ from gR)
  have HS1 := (show Hid _ from hs1)
  have B1 := (show Hid (Below w.heap.size w w1) from b1)
  clear gN gR hs1 gT b1
  go_enter Tryz.func23, Tryz.ntmps23
  go_wp2_with fail
  go_at_call 47
  rw [← hw1]
  refine Calls.mono (iarenaOf_any (HN.out.below B1.out) HFIT.out (by omega) HOK.out) ?_
  rintro e w2 ⟨g, v2, rfl, ha2, o2, hg, b2⟩
  clear hw1
  obtain ⟨qs, hq1, hq2⟩ := o2.q
  have hql : qs.length = ns.length := by have := congrArg List.length hq1; simpa using this
  obtain ⟨w4, hw4⟩ : ∃ x, x = (w2.alloc (.cells #[.pointer (some ⟨g, 0, none⟩)] 64)).alloc (.cells #[.int .i64 (-1)] 3) := ⟨_, rfl⟩
  have b24 : Below w2.heap.size w2 w4 := by rw [hw4]; exact ((Below.refl _ w2).alloc (Nat.le_refl _) _).alloc (by simp) _
  have hs4 : w4.heap.size = w2.heap.size + 1 + 1 := by rw [hw4, World.size_alloc, World.size_alloc]
  have gA : w4.heap[w2.heap.size]? = some (.cells #[.pointer (some ⟨g, 0, none⟩)] 64 (0, 0)) := by rw [hw4, Below.heap_alloc _ _ _ (by simp)]; exact World.alloc_heap_new _ _
  have gK : w4.heap[w2.heap.size + 1]? = some (.cells #[.int .i64 (-1)] 3 (0, 0)) := by
    rw [hw4]
    have := World.alloc_heap_new (w2.alloc (.cells #[.pointer (some ⟨g, 0, none⟩)] 64)) (.cells #[.int .i64 (-1)] 3)
    rwa [World.size_alloc] at this
  have hgl := lt_of_block ha2
  have hs1 := HS1.out
  have b12 := b2.size
  have b14 : Below w1.heap.size w1 w4 := b2.trans (b24.mono b2.size)
  have bw4 : Below w.heap.size w w4 := B1.out.trans (b14.mono B1.out.size)
  have CC := (show Hid _ from ichange_any (B := w1.heap.size) (a := g) (A := w2.heap.size) (N := w.heap.size + 1) (K := w2.heap.size + 1) (w := w4) (k := k) (p := p) (nm := nm) (tx := tx) (kv1 := kv1) (kv2 := kv2) (kv3 := kv3) (rs := rs) ((b24.block g hgl).trans ha2) (hq2.below b24) b14.size (by omega) (by omega) (HAV.out.below bw4) hrs gA ((b14.block (w.heap.size + 1) (by omega)).trans GN.out) gK (by omega) (by
    intro q hq e
    have := (World.ownsRow.lt (hq2.2 q hq).2 _ e).2
    omega) (by rw [hq1]; exact HFIT.out) HFN.out)
  have HQ1 := (show Hid (qs.map (fun q => q.1) = ns) from hq1)
  have BW4 := (show Hid (Below w.heap.size w w4) from bw4)
  have GA := (show Hid _ from gA)
  have GR4 := (show Hid _ from (b14.block (w.heap.size + 1 + 1) (by omega)).trans GR.out)
  obtain ⟨cA4, _⟩ := one_cell gA
  have HSS := (show Hid (w1.heap.size = w.heap.size + 1 + 1 + 1 ∧ w1.heap.size ≤ w2.heap.size ∧ w4.heap.size = w2.heap.size + 1 + 1 ∧ g < w2.heap.size ∧ w1.heap.size ≤ g) from ⟨hs1, b12, hs4, hgl, hg⟩)
  clear gA gK b24 b14 bw4 hq1 hq2 o2 ha2 b2 GN GR HS1 B1 hs4 hs1 b12 hgl hg
  go_wp2_with fail
  go_at_call 48
  rw [← hw4]
  refine Calls.mono CC.out ?_
  rintro e w5 ⟨r, rfl, hr, ⟨g5, n5, c5, ha5, ho5⟩, hk5, fr5⟩
  clear CC hw4
  have hss := HSS.out
  have gA5 := fr5.box GA.out (by decide) (by omega) (by omega)
  have gR5 := fr5.box GR4.out (by decide) (by omega) (by omega)
  have b45 : Below w.heap.size w4 w5 := fr5.below (by omega) (by omega) (by omega) (by omega)
  have b5 : Below w.heap.size w w5 := BW4.out.trans b45
  obtain ⟨cA5, _⟩ := one_cell gA5
  obtain ⟨cK5, _⟩ := one_cell hk5
  rw [HQ1.out] at hr
  have HR := (show Hid _ from hr)
  have HO5 := (show Hid (r = true → ∃ av', OwnQ w1.heap.size w5 (.slice (some ⟨g5, 0, none⟩) n5 c5) (qs ++ [(⟨k, nm, rs, tx, -1, []⟩, (av', .slice none 0 0))])) from ho5)
  have GR5 := (show Hid _ from gR5)
  have B5 := (show Hid (Below w.heap.size w w5) from b5)
  have HA5 := (show Hid _ from ha5)
  have hRl := lt_of_block gR5
  have hAl := lt_of_block gA5
  have hKl := lt_of_block hk5
  have HK5 := (show Hid _ from hk5)
  clear hr ho5 gR5 b5 b45 ha5 gA5 fr5 cA4 GA GR4 BW4 hk5 hss
  cases r
  · have HF : Hid (¬ TreeOkP (ns ++ [⟨k, nm, rs, tx, -1, []⟩])) := fun h => by have := HR.out.mpr h; cases this
    clear HR HO5
    go_wp2_with fail
    go_at_call 51
    refine Calls.mono (itree_any HA5.out) ?_
    rintro e w6 ⟨rfl, b6⟩
    have gR6 := (b6.block _ hRl).trans GR5.out
    obtain ⟨cR6, zR6⟩ := one_cell gR6
    have GR6 := (show Hid _ from gR6)
    have B6 := (show Hid (Below w.heap.size w w6) from B5.out.trans (b6.mono B5.out.size))
    clear gR6 b6
    go_wp2
    refine bodyPost_ret (iadd_res rfl rfl (setCell_at GR6.out)) rfl ?_
    exact ⟨_, _, rfl, fun h => absurd h HF.out, fun _ => rfl, B6.out.setCell (p := ⟨w.heap.size + 1 + 1, 0, none⟩) (by simp; omega) _⟩
  · have HT : Hid (TreeOkP (ns ++ [⟨k, nm, rs, tx, -1, []⟩])) := HR.out.mp rfl
    have HO5' := HO5.out rfl
    obtain ⟨av5, ho5⟩ := HO5'
    have HOQ := (show Hid (OwnQ w1.heap.size w5 (.slice (some ⟨g5, 0, none⟩) n5 c5) (qs ++ [(⟨k, nm, rs, tx, -1, []⟩, (av5, .slice none 0 0))])) from ho5)
    clear HR HO5 ho5
    go_upto_region 6 with fail
    have bd : Below w5.heap.size w5 w5.drew := below_drewN 1
    have HAd : Hid (w5.drew.heap[g]? = some (.cells #[.slice (some ⟨g5, 0, none⟩) n5 c5] 77 (0, 0))) := HA5.out
    have HSR : Hid (w2.heap.size + 1 ≠ w.heap.size + 1 + 1) := (show w2.heap.size + 1 ≠ w.heap.size + 1 + 1 by have := HSS.out; omega)
    go_region_with (go_at_call 51; refine Calls.mono (itree_any HAd.out) ?_; rintro e w6 ⟨rfl, b6⟩
                    have b56 : Below w5.heap.size w5 w6 := bd.trans (b6.mono bd.size)
                    have gR6 := (b56.block _ hRl).trans GR5.out
                    obtain ⟨cR6, zR6⟩ := one_cell gR6
                    have gK6 := (b56.block _ hKl).trans HK5.out
                    obtain ⟨cK6, _⟩ := one_cell gK6
                    have hsr := HSR.out
                    have GR6 := (show Hid _ from gR6)
                    have B6 := (show Hid (Below w5.heap.size w5 w6) from b56)
                    clear gR6 b6 b56 gK6)
    all_goals go_wp2
    all_goals
      refine bodyPost_ret (iadd_res rfl rfl (setCell_at GR6.out)) rfl ?_
      refine ⟨_, _, rfl, fun _ => ⟨rfl, ?_⟩, fun h => absurd HT.out h, (B5.out.trans (B6.out.mono B5.out.size)).setCell (p := ⟨w.heap.size + 1 + 1, 0, none⟩) (by simp; omega) _⟩
      have ho6 := (OwnQ.below HOQ.out B6.out).kept (grown_setCell w6 (w.heap.size + 1 + 1) 0 (.slice (some ⟨g5, 0, none⟩) n5 c5)) (fun r e => by cases e; exact ⟨_, _, _, GR6.out, by decide, by decide, by decide⟩)
      have := ho6.n.nodes
      rwa [List.map_append, HQ1.out] at this
end Go.Proofs.YtogdbjafibejdaaGreat
