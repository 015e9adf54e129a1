/- The program's TreeHang and TreeTake. No condition. -/
import Derived.Test.YtogdbjafibejdaaGreatV41
import Derived.Test.YtogdbjafibejdaaGreatV33
import Derived.Test.YtogdbjafibejdaaGreatV32
import Derived.Test.YtogdbjafibejdaaGreatV28
import Derived.Test.YtogdbjafibejdaaGreatV29
import Derived.Test.YtogdbjafibejdaaGreatV12
import Derived.Test.YtogdbjafibejdaaGreatV18
namespace Go.Proofs.YtogdbjafibejdaaGreat
open Go.RowKit
set_option maxRecDepth 100000
set_option linter.unusedVariables false

theorem par_ok {ns : List PNode} (h : TreeOkP ns) {i : Nat} (hi : i < ns.length) : parOf ns i = -1 ∨ ∃ p : Nat, parOf ns i = p ∧ p < ns.length := by
  obtain ⟨d, hd⟩ := h.linked i hi
  cases d with
  | zero => exact .inl hd.2
  | succ d =>
    obtain ⟨p, hp, hk⟩ := hd
    obtain ⟨h1, h2, h3, h4⟩ := fit_kid h.fit hk
    exact .inr ⟨p, by simpa using h4, h1⟩

set_option maxRecDepth 100000 in
theorem ihang_all {B a g cap : Nat} {w : World} {qs : List (PNode × (Value × Value))} (ha : w.heap[a]? = some (.cells #[.slice (some ⟨g, 0, none⟩) qs.length cap] 77 (0, 0))) (hO : OwnQ B w (.slice (some ⟨g, 0, none⟩) qs.length cap) qs) (hA : Apart qs) (hB : B ≤ w.heap.size) (hlen : qs.length ≤ 100000)
    (hp : ∀ i (hi : i < qs.length), qs[i].1.parent = -1 ∨ ∃ p : Nat, qs[i].1.parent = p ∧ p < qs.length) (hkl : ∀ q ∈ qs, q.1.kids.length ≤ 1048576) (c p : Int) :
    Calls Tryz.prog 50 #[.pointer (some ⟨a, 0, none⟩), .int .i64 c, .int .i64 p] w fun e w' => ∃ r : Bool, e = .returned (.bool r) ∧ (r = true ↔ c ≠ 0 ∧ (0 ≤ c ∧ c < qs.length) ∧ (0 ≤ p ∧ p < qs.length)) ∧ (r = true → ∃ qs', qs'.map (fun q => q.1) = hangN (qs.map (fun q => q.1)) c.toNat p.toNat ∧ OwnQ B w' (.slice (some ⟨g, 0, none⟩) qs.length cap) qs') ∧ TurnQ g qs w w' := by
  by_cases h1 : c = 0 ∨ ¬ (0 ≤ c ∧ c < qs.length)
  · refine (ihang_no ha h1).mono ?_
    rintro e w' ⟨rfl, rfl⟩
    exact ⟨false, rfl, ⟨(fun h => by cases h), fun h => by rcases h1 with h1 | h1; exact absurd h1 h.1; exact absurd h.2.1 h1⟩, (fun h => by cases h), ⟨rfl, rfl, rfl, Nat.le_refl _, fun _ _ _ _ => rfl⟩⟩
  · have hc : c ≠ 0 ∧ 0 ≤ c ∧ c < qs.length := by omega
    obtain ⟨k, rfl⟩ : ∃ k : Nat, c = (k : Int) := ⟨c.toNat, by omega⟩
    by_cases h2 : 0 ≤ p ∧ p < qs.length
    · obtain ⟨m, rfl⟩ : ∃ m : Nat, p = (m : Int) := ⟨p.toNat, by omega⟩
      refine (ihang_any ha hO hA hB hlen (c := k) (by omega) (by omega) (hp k (by omega)) hkl (p := m) (by omega)).mono ?_
      rintro e w' ⟨rfl, ⟨qs', m1, o1, _⟩, t⟩
      exact ⟨true, rfl, ⟨fun _ => ⟨hc.1, hc.2, h2⟩, fun _ => rfl⟩, fun _ => ⟨qs', by simpa using m1, o1⟩, t⟩
    · refine (ihang_far ha hO hA hB hlen (c := k) (by omega) (by omega) (hp k (by omega)) hkl h2).mono ?_
      rintro e w' ⟨rfl, t⟩
      exact ⟨false, rfl, ⟨(fun h => by cases h), fun h => absurd h.2.2 h2⟩, (fun h => by cases h), t⟩
theorem itake_all {B a g cap : Nat} {w : World} {qs : List (PNode × (Value × Value))} (ha : w.heap[a]? = some (.cells #[.slice (some ⟨g, 0, none⟩) qs.length cap] 77 (0, 0))) (hO : OwnQ B w (.slice (some ⟨g, 0, none⟩) qs.length cap) qs) (hA : Apart qs) (hB : B ≤ w.heap.size) (hlen : qs.length ≤ 100000)
    (hp : ∀ i (hi : i < qs.length), qs[i].1.parent = -1 ∨ ∃ p : Nat, qs[i].1.parent = p ∧ p < qs.length) (hkl : ∀ q ∈ qs, q.1.kids.length ≤ 1048576) (c : Int) :
    Calls Tryz.prog 65 #[.pointer (some ⟨a, 0, none⟩), .int .i64 c] w fun e w' => ∃ r : Bool, e = .returned (.bool r) ∧ (r = true ↔ c ≠ 0 ∧ (0 ≤ c ∧ c < qs.length)) ∧ (r = true → ∃ qs', qs'.map (fun q => q.1) = takeN (qs.map (fun q => q.1)) c.toNat ∧ OwnQ B w' (.slice (some ⟨g, 0, none⟩) qs.length cap) qs') ∧ TurnQ g qs w w' := by
  by_cases h1 : c = 0 ∨ ¬ (0 ≤ c ∧ c < qs.length)
  · refine (itake_no ha h1).mono ?_
    rintro e w' ⟨rfl, rfl⟩
    exact ⟨false, rfl, ⟨(fun h => by cases h), fun h => by rcases h1 with h1 | h1; exact absurd h1 h.1; exact absurd h.2 h1⟩, (fun h => by cases h), ⟨rfl, rfl, rfl, Nat.le_refl _, fun _ _ _ _ => rfl⟩⟩
  · have hc : c ≠ 0 ∧ 0 ≤ c ∧ c < qs.length := by omega
    obtain ⟨k, rfl⟩ : ∃ k : Nat, c = (k : Int) := ⟨c.toNat, by omega⟩
    refine (itake_any ha hO hA hB hlen (c := k) (by omega) (by omega) (hp k (by omega)) hkl).mono ?_
    rintro e w' ⟨rfl, ⟨qs', m1, o1, _, _⟩, t⟩
    exact ⟨true, rfl, ⟨fun _ => hc, fun _ => rfl⟩, fun _ => ⟨qs', by simpa using m1, o1⟩, TurnQ.of_row t⟩

set_option maxHeartbeats 800000 in
set_option maxRecDepth 100000 in
theorem istepHang {B a g cap A C D : Nat} {w : World} {qs : List (PNode × (Value × Value))} (ha : w.heap[a]? = some (.cells #[.slice (some ⟨g, 0, none⟩) qs.length cap] 77 (0, 0))) (hO : OwnQ B w (.slice (some ⟨g, 0, none⟩) qs.length cap) qs) (hA : Apart qs) (hB : B ≤ w.heap.size) (hlen : qs.length ≤ 100000)
    (hp : ∀ i (hi : i < qs.length), qs[i].1.parent = -1 ∨ ∃ p : Nat, qs[i].1.parent = p ∧ p < qs.length) (hkl : ∀ q ∈ qs, q.1.kids.length ≤ 1048576) (c p : Int)
    (gA : w.heap[A]? = some (.cells #[.pointer (some ⟨a, 0, none⟩)] 64 (0, 0))) (gC : w.heap[C]? = some (.cells #[.int .i64 c] 3 (0, 0))) (gD : w.heap[D]? = some (.cells #[.int .i64 p] 3 (0, 0))) :
    Calls Tryz.prog 49 #[.pointer (some ⟨A, 0, none⟩), .pointer (some ⟨C, 0, none⟩), .pointer (some ⟨D, 0, none⟩)] w fun e w' => ∃ r : Bool, e = .returned (.bool r) ∧ (r = true ↔ c ≠ 0 ∧ (0 ≤ c ∧ c < qs.length) ∧ (0 ≤ p ∧ p < qs.length)) ∧ (r = true → ∃ qs', qs'.map (fun q => q.1) = hangN (qs.map (fun q => q.1)) c.toNat p.toNat ∧ OwnQ B w' (.slice (some ⟨g, 0, none⟩) qs.length cap) qs') ∧ TurnQ g qs w w' := by
  have CC := (show Hid _ from ihang_all ha hO hA hB hlen hp hkl c p)
  obtain ⟨cA, _⟩ := one_cell gA
  obtain ⟨cC, _⟩ := one_cell gC
  obtain ⟨cD, _⟩ := one_cell gD
  clear ha hO hA hp hkl gA gC gD
  go_enter Tryz.func49, Tryz.ntmps49
  go_wp2_with fail
  go_at_call 50
  refine Calls.mono CC.out ?_
  rintro e w' ⟨r, rfl, h1, h2, h3⟩
  have H1 := (show Hid _ from h1)
  have H2 := (show Hid (r = true → ∃ qs', qs'.map (fun q => q.1) = hangN (qs.map (fun q => q.1)) c.toNat p.toNat ∧ OwnQ B w' (.slice (some ⟨g, 0, none⟩) qs.length cap) qs') from h2)
  clear CC h1 h2
  go_wp2
  go_ret
  exact ⟨r, rfl, H1.out, H2.out, h3⟩

set_option maxHeartbeats 800000 in
set_option maxRecDepth 100000 in
theorem istepTake {B a g cap A C : Nat} {w : World} {qs : List (PNode × (Value × Value))} (ha : w.heap[a]? = some (.cells #[.slice (some ⟨g, 0, none⟩) qs.length cap] 77 (0, 0))) (hO : OwnQ B w (.slice (some ⟨g, 0, none⟩) qs.length cap) qs) (hA : Apart qs) (hB : B ≤ w.heap.size) (hlen : qs.length ≤ 100000)
    (hp : ∀ i (hi : i < qs.length), qs[i].1.parent = -1 ∨ ∃ p : Nat, qs[i].1.parent = p ∧ p < qs.length) (hkl : ∀ q ∈ qs, q.1.kids.length ≤ 1048576) (c : Int)
    (gA : w.heap[A]? = some (.cells #[.pointer (some ⟨a, 0, none⟩)] 64 (0, 0))) (gC : w.heap[C]? = some (.cells #[.int .i64 c] 3 (0, 0))) :
    Calls Tryz.prog 64 #[.pointer (some ⟨A, 0, none⟩), .pointer (some ⟨C, 0, none⟩)] w fun e w' => ∃ r : Bool, e = .returned (.bool r) ∧ (r = true ↔ c ≠ 0 ∧ (0 ≤ c ∧ c < qs.length)) ∧ (r = true → ∃ qs', qs'.map (fun q => q.1) = takeN (qs.map (fun q => q.1)) c.toNat ∧ OwnQ B w' (.slice (some ⟨g, 0, none⟩) qs.length cap) qs') ∧ TurnQ g qs w w' := by
  have CC := (show Hid _ from itake_all ha hO hA hB hlen hp hkl c)
  obtain ⟨cA, _⟩ := one_cell gA
  obtain ⟨cC, _⟩ := one_cell gC
  clear ha hO hA hp hkl gA gC
  go_enter Tryz.func64, Tryz.ntmps64
  go_wp2_with fail
  go_at_call 65
  refine Calls.mono CC.out ?_
  rintro e w' ⟨r, rfl, h1, h2, h3⟩
  have H1 := (show Hid _ from h1)
  have H2 := (show Hid (r = true → ∃ qs', qs'.map (fun q => q.1) = takeN (qs.map (fun q => q.1)) c.toNat ∧ OwnQ B w' (.slice (some ⟨g, 0, none⟩) qs.length cap) qs') from h2)
  clear CC h1 h2
  go_wp2
  go_ret
  exact ⟨r, rfl, H1.out, H2.out, h3⟩

theorem hangN_fit {ns : List PNode} {c p : Nat} (h : ∀ n ∈ ns, NodeFit n ∧ n.kids.length ≤ 1000000) : ∀ n ∈ hangN ns c p, NodeFit n :=
  hangN_all (P := fun n => NodeFit n ∧ n.kids.length ≤ 1000000) h (fun n x h => ⟨⟨h.1.nm, h.1.tx, h.1.rs, h.1.each, h.1.kl⟩, h.2⟩) (fun n x h => ⟨⟨h.1.nm, h.1.tx, h.1.rs, h.1.each, Nat.le_trans (lessL_len _ _) h.1.kl⟩, Nat.le_trans (lessL_len _ _) h.2⟩) (fun n h => h.1) (fun n x h => ⟨h.1.nm, h.1.tx, h.1.rs, h.1.each, by simp [setKids]; omega⟩)
theorem takeN_fit {ns : List PNode} {c : Nat} (h : ∀ n ∈ ns, NodeFit n) : ∀ n ∈ takeN ns c, NodeFit n := by
  have hc : ∀ n ∈ cutN ns c, NodeFit n := by
    intro n hn
    unfold cutN at hn
    split at hn
    · exact h n hn
    · rcases mem_modify hn with hn | ⟨m, hm, rfl⟩
      · exact h n hn
      · have := h m hm; exact ⟨this.nm, this.tx, this.rs, this.each, Nat.le_trans (lessL_len _ _) this.kl⟩
  intro n hn
  rcases mem_modify hn with hn | ⟨m, hm, rfl⟩
  · exact hc n hn
  · have := hc m hm; exact ⟨this.nm, this.tx, this.rs, this.each, this.kl⟩
/-- A node of a right tree has no more Kids than there are nodes. -/
theorem kids_few {ns : List PNode} (h : TreeOkP ns) : ∀ n ∈ ns, n.kids.length ≤ ns.length := by
  intro n hn
  obtain ⟨i, hi, rfl⟩ := List.getElem_of_mem hn
  have hf := h.fit i hi
  rw [kidsOf_at hi] at hf
  exact nodup_le _ _ hf.1 (fun x hx => by have := hf.2 x hx; omega)
end Go.Proofs.YtogdbjafibejdaaGreat

/- When a text is written below a node, in plain words. No condition. -/
namespace Go.Proofs.YtogdbjafibejdaaGreat
open Go.RowKit
set_option maxRecDepth 100000
set_option linter.unusedVariables false

/-- When the specification writes a text. -/
def WriteB (ns : List PNode) (p : Int) (s : ByteArray) : Prop :=
  STreeOkP ns ∧ (0 ≤ p ∧ p < ns.length) ∧ (∃ h : p.toNat < ns.length, opensB ns[p.toNat] = true) ∧ empB s = false ∧ utfOk (bs s) = true ∧
    ((∃ k, LastT ns p.toNat k ∧ ∃ h : k < ns.length, utfOk (bs (ns[k].text ++ s)) = true) ∨ ((¬ ∃ k, LastT ns p.toNat k) ∧ ns.length ≠ 500))

theorem write_iff {ns ms : List PNode} (h : STreeOkP ns) (p : Int) (s : ByteArray) (hms : (∃ k, LastT ns p.toNat k ∧ ms = moreN ns k s) ∨ ((¬ ∃ k, LastT ns p.toNat k) ∧ ms = newN ns p.toNat s)) :
    WriteB ns p s ↔ ((0 ≤ p ∧ p < ns.length) ∧ empB s = false ∧ utfOk (bs s) = true) ∧ TreeOkP ms := by
  have hm := h.1.most
  constructor
  · rintro ⟨_, h1, ⟨h2, h3⟩, h4, h5, h6⟩
    refine ⟨⟨h1, h4, h5⟩, ?_⟩
    rcases hms with ⟨k, hl, rfl⟩ | ⟨hn, rfl⟩
    · rcases h6 with ⟨j, hj, hj2, hu⟩ | ⟨hno, _⟩
      · have e := hl.one hj
        subst e
        obtain ⟨pre, hk, hk2, hk4⟩ := hl
        exact (more_ok h.1 hk2 hk4 s).mpr hu
      · exact absurd ⟨k, hl⟩ hno
    · rcases h6 with ⟨j, hj, _⟩ | ⟨_, hne⟩
      · exact absurd ⟨j, hj⟩ hn
      · exact (new_ok h h2 h4 h5).mpr ⟨by omega, h3⟩
  · rintro ⟨⟨h1, h4, h5⟩, ht⟩
    have hp : p.toNat < ns.length := by omega
    rcases hms with ⟨k, hl, rfl⟩ | ⟨hn, rfl⟩
    · refine ⟨h, h1, ⟨hp, last_opens h.1 hp hl⟩, h4, h5, .inl ⟨k, hl, ?_⟩⟩
      obtain ⟨pre, hk, hk2, hk4⟩ := hl
      exact ⟨hk2, (more_ok h.1 hk2 hk4 s).mp ht⟩
    · have hh := (new_ok h hp h4 h5).mp ht
      exact ⟨h, h1, ⟨hp, hh.2⟩, h4, h5, .inr ⟨hn, by omega⟩⟩

theorem utf_size {s : ByteArray} (h : utfOk (bs s) = true) : s.size ≤ 3000 := by
  apply Classical.byContradiction
  intro hn
  rw [utfOk_no (by rw [bs_len]; exact hn)] at h
  cases h
theorem fit_moreN {ns : List PNode} {k : Nat} {s : ByteArray} (h : ∀ n ∈ ns, NodeFit n) (hs : s.size ≤ 10000) (htx : ∀ n ∈ ns, n.kind = 4 → n.text.size ≤ 3000) (hk : ∃ h : k < ns.length, ns[k].kind = 4) : ∀ n ∈ moreN ns k s, NodeFit n := by
  intro n hn
  obtain ⟨i, hi, rfl⟩ := List.mem_iff_getElem.mp hn
  have hi' : i < ns.length := by rw [moreN_len] at hi; exact hi
  have hf := h _ (List.getElem_mem hi')
  obtain ⟨hk1, hk2⟩ := hk
  by_cases e : k = i
  · subst e
    have e : (moreN ns k s)[k] = setText ns[k] (ns[k].text ++ s) := by simp [moreN]
    rw [e]
    have ht := htx _ (List.getElem_mem hi') hk2
    exact ⟨hf.nm, by show (ns[k].text ++ s).size ≤ 1048576; rw [ByteArray.size_append]; omega, hf.rs, hf.each, hf.kl⟩
  · have e : (moreN ns k s)[i] = ns[i] := by simp [moreN, e]
    rw [e]
    exact hf
theorem text_small {ns : List PNode} (h : TreeOkP ns) : ∀ n ∈ ns, n.kind = 4 → n.text.size ≤ 3000 := by
  intro n hn h4
  obtain ⟨k, hk, rfl⟩ := List.mem_iff_getElem.mp hn
  have hg := h.good k hk
  unfold goodB nodeB at hg
  simp only [h4] at hg
  simp at hg
  exact utf_size hg.2.1.1.1.2
theorem fit_newN {ns : List PNode} {p : Nat} {s : ByteArray} (h : ∀ n ∈ ns, NodeFit n ∧ n.kids.length ≤ 1000000) (hs : s.size ≤ 10000) : ∀ n ∈ newN ns p s, NodeFit n := by
  refine hangN_fit (fun n hn => ?_)
  rcases List.mem_append.mp hn with hn | hn
  · exact h n hn
  · rw [List.mem_singleton] at hn
    subst hn
    exact ⟨⟨by show (⟨#[]⟩ : ByteArray).size ≤ 1048576; decide, by show s.size ≤ 1048576; omega, by simp [txtN], fun p hp => by simp [txtN] at hp, by simp [txtN]⟩, by simp [txtN]⟩
theorem fit_write {ns ms : List PNode} (h : TreeOkP ns) (hf : ∀ n ∈ ns, NodeFit n) (p : Nat) (s : ByteArray) (hs : s.size ≤ 10000) (hms : (∃ k, LastT ns p k ∧ ms = moreN ns k s) ∨ ((¬ ∃ k, LastT ns p k) ∧ ms = newN ns p s)) : (∀ n ∈ ms, NodeFit n) ∧ ms.length ≤ 501 := by
  have hm := h.most
  rcases hms with ⟨k, hl, rfl⟩ | ⟨hn, rfl⟩
  · obtain ⟨pre, hk, hk2, hk4⟩ := hl
    exact ⟨fit_moreN hf hs (text_small h) ⟨hk2, hk4⟩, by rw [moreN_len]; omega⟩
  · exact ⟨fit_newN (fun n hn => ⟨hf n hn, by have := kids_few h n hn; omega⟩) hs, by simp [newN, hangN_len]; omega⟩
theorem write_ms (ns : List PNode) (p : Nat) (s : ByteArray) : ∃ ms, (∃ k, LastT ns p k ∧ ms = moreN ns k s) ∨ ((¬ ∃ k, LastT ns p k) ∧ ms = newN ns p s) := by
  by_cases h : ∃ k, LastT ns p k
  · obtain ⟨k, hk⟩ := h
    exact ⟨_, .inl ⟨k, hk, rfl⟩⟩
  · exact ⟨_, .inr ⟨h, rfl⟩⟩
end Go.Proofs.YtogdbjafibejdaaGreat

/- A tree as a page, in plain words. No condition. -/
namespace Go.Proofs.YtogdbjafibejdaaGreat
open Go.RowKit
set_option maxRecDepth 100000
set_option linter.unusedVariables false

def dtL : List UInt8 := [60, 33, 68, 79, 67, 84, 89, 80, 69, 32]
def coL : List UInt8 := [60, 33, 45, 45]
def coR : List UInt8 := [45, 45, 62]
def attrL (p : ByteArray × ByteArray) : List UInt8 := [32] ++ p.1.data.toList ++ [61, 34] ++ esc true p.2.data.toList ++ [34]
def openL (n : PNode) : List UInt8 := [60] ++ n.name.data.toList ++ n.attrs.flatMap attrL ++ [62]
def closeL (n : PNode) : List UInt8 := [60, 47] ++ n.name.data.toList ++ [62]
/-- What a node is printed as, below one of the name up; inner: what stands below it. -/
def nodeL (up : ByteArray) (n : PNode) (inner : List UInt8) : List UInt8 :=
  if n.kind = 2 then dtL ++ n.name.data.toList ++ [62]
  else if n.kind = 3 then (if hasB voids n.name then openL n else openL n ++ inner ++ closeL n)
  else if n.kind = 4 then (if hasB raws up then n.text.data.toList else esc false n.text.data.toList)
  else if n.kind = 5 then coL ++ n.text.data.toList ++ coR
  else []
def ndAt (ns : List PNode) (k : Nat) : PNode := (ns[k]?).getD ⟨0, ⟨#[]⟩, [], ⟨#[]⟩, -1, []⟩
theorem ndAt_at {ns : List PNode} {k : Nat} (h : k < ns.length) : ndAt ns k = ns[k] := by simp [ndAt, h]
/-- What stands below a node is printed as; f levels at most. -/
def printL (ns : List PNode) : Nat → Nat → List UInt8
  | 0, _ => []
  | f + 1, k => (kidsOf ns k).flatMap fun x => nodeL (ndAt ns k).name (ndAt ns x.toNat) (printL ns f x.toNat)

theorem esc_len (v : Bool) : ∀ (n : Nat) (l : List UInt8), l.length ≤ n → (esc v l).length ≤ 6 * l.length := by
  intro n
  induction n with
  | zero => intro l h; have : l = [] := List.length_eq_zero_iff.mp (by omega); subst this; simp [esc]
  | succ n ih =>
    intro l h
    cases l with
    | nil => simp [esc]
    | cons b r =>
      by_cases hb : b = 194 ∧ r.head? = some 160
      · obtain ⟨rfl, hr⟩ := hb
        cases r with
        | nil => cases hr
        | cons c r =>
          simp only [List.head?_cons, Option.some.injEq] at hr
          subst hr
          rw [esc_hard, List.length_append]
          have h1 := ih r (by simp at h; omega)
          have h2 : nbspS.length = 6 := rfl
          simp only [List.length_cons]
          omega
      · rw [esc_cons v b r hb, List.length_append]
        have h1 := ih r (by simpa using h)
        have h2 := esc1_le v b
        simp only [List.length_cons]
        omega
theorem esc_le (v : Bool) (l : List UInt8) : (esc v l).length ≤ 6 * l.length := esc_len v _ l (Nat.le_refl _)

theorem attrL_len {p : ByteArray × ByteArray} (h : attrOk p = true) : (attrL p).length ≤ 18100 := by
  unfold attrOk at h
  simp only [Bool.and_eq_true, decide_eq_true_eq] at h
  obtain ⟨⟨⟨h1, h2⟩, _⟩, _⟩ := h
  have h3 := esc_le true p.2.data.toList
  have h4 : p.1.size ≤ 60 := by
    unfold inB at h1
    simp at h1
    omega
  have h5 : p.1.data.toList.length = p.1.size := by simp
  have h6 : p.2.data.toList.length = p.2.size := by simp
  simp only [attrL, List.length_append, List.length_cons, List.length_nil]
  omega
theorem flatMap_le {α : Type} {l : List α} {g : α → List UInt8} {m : Nat} (h : ∀ x ∈ l, (g x).length ≤ m) : (l.flatMap g).length ≤ l.length * m := by
  induction l with
  | nil => simp
  | cons a l ih =>
    rw [List.flatMap_cons, List.length_append, List.length_cons, Nat.succ_mul]
    have h1 := h a (by simp)
    have h2 := ih (fun x hx => h x (by simp [hx]))
    omega
/-- Nothing of a right node is long. -/
structure SmallN (n : PNode) : Prop where
  nm : n.name.size ≤ 3000
  tx : n.text.size ≤ 3000
  rs : n.attrs.length ≤ 20
  each : ∀ p ∈ n.attrs, attrOk p = true
theorem small_of {n : PNode} {k : Nat} (h : goodB n k = true) : SmallN n := by
  unfold goodB at h
  rw [Bool.and_eq_true] at h
  have h := h.2
  unfold nodeB at h
  have e0 : ∀ s, empB s = true → s.size ≤ 3000 := fun s hs => by have := (empB_iff s).mp hs; omega
  have r0 : n.attrs.length = 0 → n.attrs.length ≤ 20 ∧ ∀ p ∈ n.attrs, attrOk p = true := fun hr => by
    have : n.attrs = [] := List.length_eq_zero_iff.mp hr
    rw [this]; simp
  split at h
  · simp only [Bool.and_eq_true, decide_eq_true_eq] at h
    exact ⟨e0 _ h.1.1, e0 _ h.2, (r0 h.1.2).1, (r0 h.1.2).2⟩
  split at h
  · simp only [Bool.and_eq_true, decide_eq_true_eq] at h
    obtain ⟨⟨⟨⟨h1, _⟩, h2⟩, h3⟩, _⟩ := h
    exact ⟨by omega, e0 _ h3, (r0 h2).1, (r0 h2).2⟩
  split at h
  · simp only [Bool.and_eq_true] at h
    obtain ⟨⟨h1, h2⟩, h3⟩ := h
    have hn : n.name.size ≤ 3000 := by
      unfold nameOk at h1
      simp only [Bool.and_eq_true] at h1
      exact utf_size h1.1.1.2
    unfold attrsOk attrsTo at h2
    simp only [Bool.and_eq_true, decide_eq_true_eq, List.all_eq_true] at h2
    exact ⟨hn, e0 _ h3, h2.1, h2.2.1⟩
  split at h
  · simp only [Bool.and_eq_true, decide_eq_true_eq] at h
    obtain ⟨⟨⟨⟨_, h1⟩, h2⟩, h3⟩, _⟩ := h
    exact ⟨e0 _ h2, utf_size h1, (r0 h3).1, (r0 h3).2⟩
  split at h
  · simp only [Bool.and_eq_true, decide_eq_true_eq] at h
    obtain ⟨⟨⟨h1, h2⟩, h3⟩, _⟩ := h
    exact ⟨e0 _ h2, utf_size h1, (r0 h3).1, (r0 h3).2⟩
  · cases h
theorem small_all {ns : List PNode} (h : TreeOkP ns) : ∀ k (hk : k < ns.length), SmallN ns[k] := fun k hk => small_of (h.good k hk)
theorem openL_len {n : PNode} (h : SmallN n) : (openL n).length ≤ 366000 := by
  have h1 := flatMap_le (l := n.attrs) (g := attrL) (m := 18100) (fun p hp => attrL_len (h.each p hp))
  have h2 := h.nm
  have h3 : n.name.data.toList.length = n.name.size := by simp
  have h4 := h.rs
  have h5 : n.attrs.length * 18100 ≤ 20 * 18100 := Nat.mul_le_mul_right _ h4
  simp only [openL, List.length_append, List.length_cons, List.length_nil]
  omega
theorem nodeL_len {n : PNode} (h : SmallN n) (up : ByteArray) (inner : List UInt8) : (nodeL up n inner).length ≤ 390000 + inner.length := by
  have h1 := openL_len h
  have h2 := h.nm
  have h3 : n.name.data.toList.length = n.name.size := by simp
  have h4 := h.tx
  have h5 : n.text.data.toList.length = n.text.size := by simp
  have h6 := esc_le false n.text.data.toList
  unfold nodeL
  repeat' split
  all_goals
    (try simp only [List.length_append, List.length_cons, List.length_nil, closeL, dtL, coL, coR])
    omega
theorem flat_less {l : List Int} {g : Int → List UInt8} {d : Int → List Int} {m : Nat} (h : ∀ x ∈ l, (g x).length ≤ m * (d x).length) : (l.flatMap g).length ≤ m * (l.flatMap d).length := by
  induction l with
  | nil => simp
  | cons a l ih =>
    rw [List.flatMap_cons, List.flatMap_cons, List.length_append, List.length_append, Nat.mul_add]
    have h1 := h a (by simp)
    have h2 := ih (fun x hx => h x (by simp [hx]))
    omega
theorem print_len {ns : List PNode} (hs : ∀ k (hk : k < ns.length), SmallN ns[k]) : ∀ f k, deepOk ns f k → (printL ns f k).length + 390000 ≤ 390000 * (down ns f k).length
  | 0, k, h => h.elim
  | f + 1, k, h => by
    rw [printL, down, List.length_cons, Nat.mul_add]
    have := flat_less (l := kidsOf ns k) (m := 390000) (g := fun x => nodeL (ndAt ns k).name (ndAt ns x.toNat) (printL ns f x.toNat)) (d := fun x => down ns f x.toNat) (fun x hx => by
      have h1 := (h.2 x hx).2
      have h2 := print_len hs f x.toNat h1
      have h3 := deepOk_lt h1
      have h4 := nodeL_len (by rw [ndAt_at h3]; exact hs _ h3 : SmallN (ndAt ns x.toNat)) (ndAt ns k).name (printL ns f x.toNat)
      omega)
    omega
theorem flat_same {L : List Int} {g g' : Int → List UInt8} (h : ∀ x ∈ L, g' x = g x) : L.flatMap g' = L.flatMap g := by
  induction L with
  | nil => rfl
  | cons a l ih => rw [List.flatMap_cons, List.flatMap_cons, h a (by simp), ih (fun x hx => h x (by simp [hx]))]
theorem print_deep (ns : List PNode) : ∀ (f g k : Nat), f ≤ g → deepOk ns f k → printL ns g k = printL ns f k
  | 0, _, _, _, h => h.elim
  | f + 1, 0, _, h, _ => by omega
  | f + 1, g + 1, k, hfg, h => by
    rw [printL, printL]
    exact flat_same fun x hx => by rw [print_deep ns f g x.toNat (by omega) (h.2 x hx).2]
/-- A right tree is printed in less than 200 million bytes. -/
theorem print_small {ns : List PNode} (h : TreeOkP ns) {k : Nat} (hk : k < ns.length) : (printL ns ns.length k).length ≤ 195000000 := by
  have h1 := print_len (small_all h) ns.length k (tree_deep h hk)
  have h2 := down_few h hk
  have h3 := h.most
  have h4 : 390000 * (down ns ns.length k).length ≤ 390000 * 500 := Nat.mul_le_mul_left _ (by omega)
  omega
end Go.Proofs.YtogdbjafibejdaaGreat

/- The printer's writeText. No condition. -/
namespace Go.Proofs.YtogdbjafibejdaaGreat
open Go.RowKit
set_option maxRecDepth 100000
set_option linter.unusedVariables false

theorem prNew_any {B b n : Nat} {nv : Value} {l : List UInt8} {w : World} (h : IsPr B b nv l w) (hBw : B ≤ w.heap.size) (ts : List ByteArray) (cs : Array Value) (hcs : cs.toList = ts.map Value.string) (hn : n = ts.length) (hn2 : ts.length ≤ 1000) (hlen : l.length + (flatS ts).length ≤ 70368744177664) :
    Calls Tryz.prog 162 #[.pointer (some ⟨b, 0, none⟩), .slice (some ⟨w.heap.size, 0, none⟩) n n] (w.alloc (.cells cs 9)) fun e w' => e = .returned (.tuple #[]) ∧ IsPr B b nv (l ++ flatS ts) w' ∧ PrK B b w w' := by
  have b1 : Below w.heap.size w (w.alloc (.cells cs 9)) := (Below.refl _ _).alloc (Nat.le_refl _) _
  have hb := h.lt
  refine Calls.mono (prParts_any (h.below b1) (Nat.le_trans hBw b1.size) ts cs hcs (World.alloc_heap_new _ _) (by omega) hn hn2 hlen) ?_
  rintro e w' ⟨rfl, h1, h2⟩
  exact ⟨rfl, h1, (PrK.of_below b1 hb).trans h2⟩

/-- The state while a page is written: the tree's nodes below B, the printer. -/
structure PrW (w0 : World) (b : Nat) (nv : Value) (l : List UInt8) (w : World) : Prop where
  bel : Below w0.heap.size w0 w
  pr : IsPr w0.heap.size b nv l w
theorem PrW.below {w0 : World} {b : Nat} {nv : Value} {l : List UInt8} {w w' : World} (h : PrW w0 b nv l w) (hb : Below w.heap.size w w') : PrW w0 b nv l w' := ⟨h.bel.trans (hb.mono h.bel.size), h.pr.below hb⟩
theorem PrW.next {w0 : World} {b : Nat} {nv : Value} {l l' : List UInt8} {w w' : World} (h : PrW w0 b nv l w) (h2 : IsPr w0.heap.size b nv l' w') (k : PrK w0.heap.size b w w') : PrW w0 b nv l' w' := ⟨h.bel.trans (k.below h.bel.size), h2⟩

/-- What a text is written as, below one of the name up. -/
def textAs (up : ByteArray) (tx : ByteArray) : List UInt8 := if hasB raws up then tx.data.toList else esc false tx.data.toList

set_option maxHeartbeats 400000 in
set_option maxRecDepth 100000 in
theorem prText_any {w0 : World} {b : Nat} {a : Option Addr} {cap : Nat} {ns : List PNode} (hn : NodesAt w0 (.slice a ns.length cap) ns) {l : List UInt8} {w : World} (h : PrW w0 b (.slice a ns.length cap) l w) {q : Nat} (hq : q < ns.length) (hlen : ns.length ≤ 1048576)
    (k : Int) (nm tx : ByteArray) {av kv : Value} {av1 : Option Addr} {av2 av3 : Nat} {kv1 : Option Addr} {kv2 kv3 : Nat} (hs : tx.size ≤ 1048576) (hl : l.length ≤ 35184372088832) :
    Calls Tryz.prog 164 #[.pointer (some ⟨b, 0, none⟩), .agg #[.int .i64 k, .string nm, .slice av1 av2 av3, .string tx, .int .i64 (q : Int), .slice kv1 kv2 kv3]] w fun e w' => e = .returned (.tuple #[]) ∧ PrW w0 b (.slice a ns.length cap) (l ++ textAs ns[q].name tx) w' ∧ PrK w0.heap.size b w w' := by
  have hbl := h.pr.lt
  obtain ⟨w1, hw1⟩ : ∃ x, x = w.alloc (.cells #[.int .i64 k, .string nm, .slice av1 av2 av3, .string tx, .int .i64 (q : Int), .slice kv1 kv2 kv3] 36) := ⟨_, rfl⟩
  have b1 : Below w.heap.size w w1 := by rw [hw1]; exact (Below.refl _ _).alloc (Nat.le_refl _) _
  have g1 : w1.heap[w.heap.size]? = some (.cells #[.int .i64 k, .string nm, .slice av1 av2 av3, .string tx, .int .i64 (q : Int), .slice kv1 kv2 kv3] 36 (0, 0)) := by rw [hw1]; exact World.alloc_heap_new _ _
  obtain ⟨N, hN⟩ : ∃ x, x = w.heap.size := ⟨_, rfl⟩
  rw [← hN] at g1
  have HG := (show Hid _ from g1)
  have HB := (show Hid (Below w.heap.size w w1) from b1)
  have HP := (show Hid (PrW w0 b (.slice a ns.length cap) l w1) from h.below b1)
  have hn1 := hn.below HP.out.bel
  obtain ⟨_, _, e1, _, _, hcs⟩ := hn1.slice
  cases e1
  obtain ⟨gb, go, _, _, rfl, hgl, _, c1, _⟩ := hcs q hq
  obtain ⟨up, hup⟩ : ∃ up, up = ns[q].name := ⟨_, rfl⟩
  rw [← hup] at c1 ⊢
  have f0 : ∀ n : Wd w1.heap.size w1, n.w.cell? ⟨b, 0, none⟩ = some (.slice (some ⟨gb, go, none⟩) ns.length cap) := fun n => (n.below.cell (p := ⟨b, 0, none⟩) HP.out.pr.lt).trans HP.out.pr.cell0
  have f1 : ∀ n : Wd w1.heap.size w1, n.w.cell? ⟨N, 4, none⟩ = some (.int .i64 (q : Int)) := fun n => (n.below.cell (p := ⟨N, 4, none⟩) (blk_lt g1)).trans (six_at g1).1.2.2.2.2.1
  have f2 : ∀ n : Wd w1.heap.size w1, n.w.cell? ⟨gb, go + q * 6 + 1, none⟩ = some (.string up) := fun n => (n.below.cell (p := ⟨gb, go + q * 6 + 1, none⟩) hgl).trans c1
  have hqi : (q : Int) < ns.length := by omega
  have hst : tx.data.toList.length = tx.size := by simp
  have hse := esc_le false tx.data.toList
  have hbN : N ≠ b := by omega
  have CR := (show Hid (∀ n : Wd w1.heap.size w1, Calls Tryz.prog 196 #[.string up] n.w fun e w' => e = .returned (.bool (hasB raws up)) ∧ Below n.w.heap.size n.w w') from fun n => (iisRaw_any up n.w).mono (by rintro e w' ⟨rfl, rfl⟩; exact ⟨rfl, Below.refl _ _⟩))
  clear hcs hn1 hn b1 g1 h hup
  obtain ⟨r, hr⟩ : ∃ r, r = hasB raws up := ⟨_, rfl⟩
  have HR := (show Hid (r = hasB raws up) from hr)
  rw [← hr] at CR
  clear hr
  go_enter Tryz.func164, Tryz.ntmps164
  go_upto_region 1 with fail
  rw [← hw1, ← hN]
  clear hw1 hN
  have ne := Wd.any w1.heap.size w1
  refine wp_region_below (B := w1.heap.size) (w0 := w1) (by kernel_rfl) (by kernel_rfl) (Below.refl _ _) ?_
  repeat (go_big_quiet_step ((go_at_call 196; exact quiet_below (CR.out _) (Nat.le_refl _))))
  refine wpQuiet_nil ?_
  intro w2 hq2
  have b2 := Wd.of hq2
  have HP2 := (show Hid (PrW w0 b (.slice (some ⟨gb, go, none⟩) ns.length cap) l w2) from HP.out.below b2)
  have HB2 := (show Hid (Below w.heap.size w w2) from HB.out.trans (b2.mono HB.out.size))
  have g2 := (b2.block _ (blk_lt HG.out)).trans HG.out
  have c3 := (six_at g2).1.2.2.2.1
  clear b2 g2 hq2 f0 f1 f2 c1 CR
  cases r with
  | true =>
    have HT : Hid (textAs up tx = flatS [tx]) := by show textAs up tx = flatS [tx]; simp [textAs, ← HR.out, flatS]
    go_wp2_with fail
    go_at_call 162
    refine Calls.mono (prNew_any HP2.out.pr HP2.out.bel.size [tx] _ rfl rfl (by simp) (by simp [flatS]; omega)) ?_
    rintro e w3 ⟨rfl, h3, k3⟩
    have H3 := (show Hid (PrW w0 b (.slice (some ⟨gb, go, none⟩) ns.length cap) (l ++ textAs up tx) w3 ∧ PrK w0.heap.size b w w3) from ⟨HP2.out.next (by rw [HT.out]; exact h3) k3, (PrK.of_below HB2.out hbl).trans k3⟩)
    clear h3 k3
    go_wp2
    refine bodyPost_ret (results_none rfl _ _ _) rfl ?_
    exact ⟨rfl, H3.out⟩
  | false =>
    have HT : Hid (textAs up tx = flatS [lstr (esc false tx.data.toList)]) := by show textAs up tx = flatS [lstr (esc false tx.data.toList)]; simp [textAs, ← HR.out, flatS, lstr]
    go_wp2_with fail
    go_at_call 194
    refine Calls.mono (iescape_any tx false w2 (by omega)) ?_
    rintro e w3 ⟨rfl, b3⟩
    have HP3 := (show Hid (PrW w0 b (.slice (some ⟨gb, go, none⟩) ns.length cap) l w3) from HP2.out.below b3)
    have HB3 := (show Hid (Below w.heap.size w w3) from HB2.out.trans (b3.mono HB2.out.size))
    clear b3 HP2 HB2
    obtain ⟨es, hes⟩ : ∃ es, es = lstr (esc false tx.data.toList) := ⟨_, rfl⟩
    have hesl : es.data.toList.length ≤ 6 * tx.size := by rw [hes]; simpa [lstr] using hse
    rw [← hes] at HT ⊢
    clear hes
    go_wp2_with fail
    go_at_call 162
    refine Calls.mono (prNew_any HP3.out.pr HP3.out.bel.size [es] _ rfl rfl (by simp) (by simp [flatS] at hesl ⊢; omega)) ?_
    rintro e w4 ⟨rfl, h4, k4⟩
    have H4 := (show Hid (PrW w0 b (.slice (some ⟨gb, go, none⟩) ns.length cap) (l ++ textAs up tx) w4 ∧ PrK w0.heap.size b w w4) from ⟨HP3.out.next (by rw [HT.out]; exact h4) k4, (PrK.of_below HB3.out hbl).trans k4⟩)
    clear h4 k4
    go_wp2
    go_end0
    exact ⟨rfl, H4.out⟩
end Go.Proofs.YtogdbjafibejdaaGreat

/- The printer's writeElement (written by mk/ipr3.py). No condition. -/
namespace Go.Proofs.YtogdbjafibejdaaGreat
open Go.RowKit
set_option maxRecDepth 100000
set_option linter.unusedVariables false

theorem take_flat {rs : List (ByteArray × ByteArray)} {k : Nat} (hk : k < rs.length) : (rs.take (k + 1)).flatMap attrL = (rs.take k).flatMap attrL ++ attrL rs[k] := by
  rw [List.take_succ_eq_append_getElem hk, List.flatMap_append, List.flatMap_singleton]
theorem take_le (rs : List (ByteArray × ByteArray)) (k : Nat) : ((rs.take k).flatMap attrL).length ≤ (rs.flatMap attrL).length := by
  conv => rhs; rw [← List.take_append_drop k rs]
  rw [List.flatMap_append, List.length_append]
  exact Nat.le_add_right _ _
theorem attr_parts (p : ByteArray × ByteArray) : attrL p = flatS [⟨#[32]⟩, p.1, ⟨#[61, 34]⟩, lstr (esc true p.2.data.toList), ⟨#[34]⟩] := by
  simp [attrL, flatS, lstr]
/-- What writeKids does below a node. -/
def KidsOk (w0 : World) (b : Nat) (nv : Value) (k : Nat) (out : List UInt8) : Prop :=
  ∀ (w : World) (l : List UInt8), PrW w0 b nv l w → l.length + out.length ≤ 35184372088832 →
    Calls Tryz.prog 80 #[.pointer (some ⟨b, 0, none⟩), .int .i64 (k : Int)] w fun e w' => e = .returned (.tuple #[]) ∧ PrW w0 b nv (l ++ out) w' ∧ PrK w0.heap.size b w w'

set_option maxHeartbeats 2000000 in
set_option maxRecDepth 100000 in
theorem prElem_any {w0 : World} {b : Nat} {a : Option Addr} {cap : Nat} {ns : List PNode} (hn : NodesAt w0 (.slice a ns.length cap) ns) {l : List UInt8} {w : World} (h : PrW w0 b (.slice a ns.length cap) l w) {k : Nat} (hk : k < ns.length) (hlen : ns.length ≤ 1048576) (hsm : SmallN ns[k])
    {out : List UInt8} (hK : hasB voids ns[k].name = false → KidsOk w0 b (.slice a ns.length cap) k out) (hl : l.length + (if hasB voids ns[k].name then openL ns[k] else openL ns[k] ++ out ++ closeL ns[k]).length ≤ 35184372088832) :
    Calls Tryz.prog 163 #[.pointer (some ⟨b, 0, none⟩), .int .i64 (k : Int)] w fun e w' => e = .returned (.tuple #[]) ∧ PrW w0 b (.slice a ns.length cap) (l ++ (if hasB voids ns[k].name then openL ns[k] else openL ns[k] ++ out ++ closeL ns[k])) w' ∧ PrK w0.heap.size b w w' := by
  have hbl := h.pr.lt
  have HP := (show Hid (PrW w0 b (.slice a ns.length cap) l w) from h)
  have HKO := (show Hid _ from hK)
  have HOL := (show Hid _ from openL_len hsm)
  have HSM := (show Hid _ from hsm)
  obtain ⟨_, _, e1, _, _, hcs⟩ := hn.slice
  cases e1
  obtain ⟨gb, go, av, kv, rfl, hgl, c0, c1, c2, c3, c4, c5, hav, hkv⟩ := hcs k hk
  obtain ⟨av1, acap, rfl, ha1, ha2, ha3'⟩ := hav.pair
  have ha3 : ∀ j (hj : j < ns[k].attrs.length), ∃ xb xo, av1 = some ⟨xb, xo, none⟩ ∧ ∀ W, Below w0.heap.size w0 W → W.cell? ⟨xb, xo + j * 2, none⟩ = some (.string ns[k].attrs[j].1) ∧ W.cell? ⟨xb, xo + j * 2 + 1, none⟩ = some (.string ns[k].attrs[j].2) := fun j hj => by
    obtain ⟨xb, xo, e, hx, y0, y1⟩ := ha3' j hj
    exact ⟨xb, xo, e, fun W hW => ⟨(hW.cell (p := ⟨xb, xo + j * 2, none⟩) hx).trans y0, (hW.cell (p := ⟨xb, xo + j * 2 + 1, none⟩) hx).trans y1⟩⟩
  replace c0 := (h.bel.cell (p := ⟨gb, go + k * 6, none⟩) hgl).trans c0
  replace c1 := (h.bel.cell (p := ⟨gb, go + k * 6 + 1, none⟩) hgl).trans c1
  replace c2 := (h.bel.cell (p := ⟨gb, go + k * 6 + 2, none⟩) hgl).trans c2
  replace c3 := (h.bel.cell (p := ⟨gb, go + k * 6 + 3, none⟩) hgl).trans c3
  replace c4 := (h.bel.cell (p := ⟨gb, go + k * 6 + 4, none⟩) hgl).trans c4
  replace c5 := (h.bel.cell (p := ⟨gb, go + k * 6 + 5, none⟩) hgl).trans c5
  clear ha3'
  obtain ⟨kv1, kcap, rfl, hk1, hk2, _, _⟩ := hkv
  have cP := h.pr.cell0
  obtain ⟨nd, hnd⟩ : ∃ nd, nd = ns[k] := ⟨_, rfl⟩
  rw [← hnd] at c0 c1 c2 c3 c4 c5 hav ha1 ha3 hk1 hsm HKO HOL HSM hl ⊢
  obtain ⟨res, hres⟩ : ∃ res, res = (if hasB voids nd.name then openL nd else openL nd ++ out ++ closeL nd) := ⟨_, rfl⟩
  rw [← hres] at hl ⊢
  have HRES := (show Hid (res = (if hasB voids nd.name then openL nd else openL nd ++ out ++ closeL nd)) from hres)
  clear hres
  have hr20 := hsm.rs
  have hnm := hsm.nm
  obtain ⟨nk, nm, rs, tx, par, ks⟩ := nd
  simp only at c0 c1 c2 c3 c4 c5 hav ha1 ha3 hk1 hr20 hnm HKO
  have HAV := (show Hid (∀ j (hj : j < rs.length), ∃ xb xo, av1 = some ⟨xb, xo, none⟩ ∧ ∀ W, Below w0.heap.size w0 W → W.cell? ⟨xb, xo + j * 2, none⟩ = some (.string rs[j].1) ∧ W.cell? ⟨xb, xo + j * 2 + 1, none⟩ = some (.string rs[j].2)) from ha3)
  have HB0 := (show Hid (w0.heap.size ≤ w.heap.size) from h.bel.size)
  have HN0 := (show Hid (NodesAt w0 (.slice (some ⟨gb, go, none⟩) ns.length cap) ns) from hn)
  have hki : (k : Int) < ns.length := by omega
  obtain ⟨w1, hw1⟩ : ∃ x, x = w.alloc (.cells #[.int .i64 nk, .string nm, .slice av1 rs.length acap, .string tx, .int .i64 par, .slice kv1 ks.length kcap] 36) := ⟨_, rfl⟩
  have b1 : Below w.heap.size w w1 := by rw [hw1]; exact (Below.refl _ _).alloc (Nat.le_refl _) _
  have g1 : w1.heap[w.heap.size]? = some (.cells #[.int .i64 nk, .string nm, .slice av1 rs.length acap, .string tx, .int .i64 par, .slice kv1 ks.length kcap] 36 (0, 0)) := by rw [hw1]; exact World.alloc_heap_new _ _
  obtain ⟨N, hN⟩ : ∃ x, x = w.heap.size := ⟨_, rfl⟩
  rw [← hN] at g1
  have hNb : N ≠ b := by omega
  have G1 := (show Hid _ from g1)
  have P1 := (show Hid (PrW w0 b (.slice (some ⟨gb, go, none⟩) ns.length cap) l w1) from h.below b1)
  have K1 := (show Hid (PrK w0.heap.size b w w1) from PrK.of_below b1 hbl)
  have n1 := (six_at g1).1.2.1
  have n2 := (six_at g1).1.2.2.1
  have hls : nm.data.toList.length = nm.size := by simp
  clear hcs hn hnd hsm hav ha3 b1 g1 h hK
  go_enter Tryz.func163, Tryz.ntmps163
  go_upto_region 1 with fail
  rw [← hw1, ← hN]
  clear hw1 hN c0 c1 c2 c3 c4 c5
  go_wp2_with fail
  go_at_call 162
  refine Calls.mono (prNew_any P1.out.pr P1.out.bel.size [⟨#[60]⟩, nm] _ rfl rfl (by simp) (by simp [flatS]; omega)) ?_
  rintro e w2 ⟨rfl, h2, k2⟩
  have G2 := (show Hid _ from k2.keepB G1.out hNb (by decide))
  have P2 := (show Hid (PrW w0 b (.slice (some ⟨gb, go, none⟩) ns.length cap) (l ++ flatS [⟨#[60]⟩, nm]) w2) from P1.out.next h2 k2)
  have K2 := (show Hid (PrK w0.heap.size b w w2) from K1.out.trans k2)
  have n1 := (six_at G2.out).1.2.1
  have n2 := (six_at G2.out).1.2.2.1
  clear h2 k2 G1 P1 K1
  obtain ⟨l1, hl1⟩ : ∃ l1, l1 = l ++ flatS [⟨#[60]⟩, nm] := ⟨_, rfl⟩
  rw [← hl1] at P2
  have HL1 := (show Hid (l1 = l ++ flatS [⟨#[60]⟩, nm]) from hl1)
  have hl1s : l1.length ≤ l.length + 3001 := by rw [hl1, List.length_append]; simp [flatS]; omega
  clear hl1
  have hatt : (rs.flatMap attrL).length ≤ 366000 := by
    have := HOL.out
    simp only [openL, List.length_append] at this
    omega
  go_wp2
  go_loopw [23] (fun i wr => ∃ j : Nat, j ≤ rs.length ∧ i = .int .i64 j ∧ Hid (PrW w0 b (.slice (some ⟨gb, go, none⟩) ns.length cap) (l1 ++ (rs.take j).flatMap attrL) wr ∧ PrK w0.heap.size b w wr ∧ wr.heap[N]? = some (.cells #[.int .i64 nk, .string nm, .slice av1 rs.length acap, .string tx, .int .i64 par, .slice kv1 ks.length kcap] 36 (0, 0)))) (fun i _ => rs.length - (intOf i).toNat)
  case atStart => exact ⟨0, Nat.zero_le _, rfl, by simpa using P2.out, K2.out, G2.out⟩
  case round =>
    obtain ⟨j, hj, rfl, HR⟩ := hrel
    by_cases hlt : j < rs.length
    · obtain ⟨xb, xo, rfl, hx0⟩ := HAV.out j hlt
      have hbr := HR.out.1.bel
      have kr := HR.out.2.1
      have x0r := (hx0 wr hbr).1
      have x1r := (hx0 wr hbr).2
      have hat := HSM.out.each rs[j] (List.getElem_mem hlt)
      have HTK := (show Hid ((rs.take (j + 1)).flatMap attrL = (rs.take j).flatMap attrL ++ attrL rs[j]) from take_flat hlt)
      have htl := take_le rs (j + 1)
      rw [HTK.out, List.length_append] at htl
      obtain ⟨pp, hpp⟩ : ∃ pp, pp = rs[j] := ⟨_, rfl⟩
      rw [← hpp] at x0r x1r hat HTK htl
      clear hpp hx0
      obtain ⟨an, ax⟩ := pp
      simp only at x0r x1r
      have hax : ax.size ≤ 3000 := by
        unfold attrOk at hat
        simp only [Bool.and_eq_true, decide_eq_true_eq] at hat
        exact hat.1.1.2
      obtain ⟨es, hes⟩ : ∃ es, es = lstr (esc true ax.data.toList) := ⟨_, rfl⟩
      have HAP := (show Hid (attrL (an, ax) = flatS [⟨#[32]⟩, an, ⟨#[61, 34]⟩, es, ⟨#[34]⟩]) from by rw [hes]; exact attr_parts (an, ax))
      have CE := (show Hid (∀ W, Calls Tryz.prog 194 #[.string ax, .bool true] W fun e w' => e = .returned (.string es) ∧ Below W.heap.size W w') from fun W => by rw [hes]; exact iescape_any ax true W (by omega))
      rw [HAP.out] at htl
      have HTL := (show Hid (((rs.take j).flatMap attrL).length + (flatS [⟨#[32]⟩, an, ⟨#[61, 34]⟩, es, ⟨#[34]⟩]).length ≤ 366000) from (by omega : ((rs.take j).flatMap attrL).length + (flatS [⟨#[32]⟩, an, ⟨#[61, 34]⟩, es, ⟨#[34]⟩]).length ≤ 366000))
      obtain ⟨wx, hwx⟩ : ∃ x, x = wr.alloc (.cells #[.string an, .string ax] 115) := ⟨_, rfl⟩
      have bx : Below wr.heap.size wr wx := by rw [hwx]; exact (Below.refl _ _).alloc (Nat.le_refl _) _
      have gx : wx.heap[wr.heap.size]? = some (.cells #[.string an, .string ax] 115 (0, 0)) := by rw [hwx]; exact World.alloc_heap_new _ _
      obtain ⟨X, hX⟩ : ∃ x, x = wr.heap.size := ⟨_, rfl⟩
      rw [← hX] at gx
      have PX := (show Hid (PrW w0 b (.slice (some ⟨gb, go, none⟩) ns.length cap) (l1 ++ (rs.take j).flatMap attrL) wx) from HR.out.1.below bx)
      have KX := (show Hid (PrK w0.heap.size b w wx) from kr.trans (PrK.of_below bx HR.out.1.pr.lt))
      have GN := (show Hid _ from (bx.block _ (blk_lt HR.out.2.2)).trans HR.out.2.2)
      have GX := (show Hid (wx.heap[X]? = some (.cells #[.string an, .string ax] 115 (0, 0))) from gx)
      have y0 : wx.cell? ⟨X, 0, none⟩ = some (.string an) := by simp only [World.cell?, gx]; rfl
      have y1 : wx.cell? ⟨X, 1, none⟩ = some (.string ax) := by simp only [World.cell?, gx]; rfl
      clear hat htl hes bx gx hbr kr
      go_upto_region 5 with fail
      rw [← hwx, ← hX]
      clear hwx hX x0r x1r
      go_region_with (first
        | (go_at_call 194
           refine Calls.mono (CE.out _) ?_
           rintro e w3 ⟨rfl, b3⟩
           have b3' : Below wx.heap.size wx w3 := (below_drewN 1).trans b3
           have P3 := (show Hid (PrW w0 b (.slice (some ⟨gb, go, none⟩) ns.length cap) (l1 ++ (rs.take j).flatMap attrL) w3) from PX.out.below b3')
           have K3 := (show Hid (PrK w0.heap.size b w w3) from KX.out.trans (PrK.of_below b3' PX.out.pr.lt))
           have GN3 := (show Hid _ from (b3'.block _ (blk_lt GN.out)).trans GN.out)
           have z0 : w3.cell? ⟨X, 0, none⟩ = some (.string an) := (b3'.cell (p := ⟨X, 0, none⟩) (blk_lt GX.out)).trans y0
           clear b3 b3')
        | (go_at_call 162
           refine Calls.mono (prNew_any P3.out.pr P3.out.bel.size [⟨#[32]⟩, an, ⟨#[61, 34]⟩, es, ⟨#[34]⟩] _ rfl rfl (by simp) (by have := HTL.out; rw [List.length_append]; omega)) ?_
           rintro e w4 ⟨rfl, h4, k4⟩
           have H4 := (show Hid (PrW w0 b (.slice (some ⟨gb, go, none⟩) ns.length cap) (l1 ++ (rs.take (j + 1)).flatMap attrL) w4 ∧ PrK w0.heap.size b w w4 ∧ w4.heap[N]? = some (.cells #[.int .i64 nk, .string nm, .slice (some ⟨xb, xo, none⟩) rs.length acap, .string tx, .int .i64 par, .slice kv1 ks.length kcap] 36 (0, 0))) from ⟨by rw [HTK.out, HAP.out, ← List.append_assoc]; exact P3.out.next h4 k4, K3.out.trans k4, k4.keepB GN3.out hNb (by decide)⟩)
           clear h4 k4)
        | fail)
      all_goals
        go_wp2
        go_roundw
        case rel => exact ⟨j + 1, by omega, by go_num, H4⟩
        case measure => simp [intOf]; omega
    · obtain rfl : j = rs.length := by omega
      have PR := (show Hid (PrW w0 b (.slice (some ⟨gb, go, none⟩) ns.length cap) (l1 ++ rs.flatMap attrL) wr) from by have := HR.out.1; rwa [List.take_length] at this)
      have KR := (show Hid (PrK w0.heap.size b w wr) from HR.out.2.1)
      have GN := (show Hid _ from HR.out.2.2)
      clear HR
      go_wp2_with fail
      go_at_call 162
      refine Calls.mono (prNew_any PR.out.pr PR.out.bel.size [⟨#[62]⟩] _ rfl rfl (by simp) (by rw [List.length_append, show (flatS [⟨#[62]⟩]).length = 1 from rfl]; omega)) ?_
      rintro e w5 ⟨rfl, h5, k5⟩
      have HOP : Hid (l1 ++ rs.flatMap attrL ++ flatS [⟨#[62]⟩] = l ++ openL ⟨nk, nm, rs, tx, par, ks⟩) := (by rw [HL1.out]; simp [openL, flatS] : l1 ++ rs.flatMap attrL ++ flatS [⟨#[62]⟩] = l ++ openL ⟨nk, nm, rs, tx, par, ks⟩)
      rw [HOP.out] at h5
      have P5 := (show Hid (PrW w0 b (.slice (some ⟨gb, go, none⟩) ns.length cap) (l ++ openL ⟨nk, nm, rs, tx, par, ks⟩) w5) from PR.out.next h5 k5)
      have K5 := (show Hid (PrK w0.heap.size b w w5) from KR.out.trans k5)
      have G5 := (show Hid _ from k5.keepB GN.out hNb (by decide))
      have m1 := (six_at G5.out).1.2.1
      clear h5 k5 GN PR KR HOP HL1
      go_wp2_with fail
      go_at_call 195
      refine Calls.mono (iisVoid_any nm w5) ?_
      rintro e w6 ⟨rfl, hw6⟩
      rw [hw6]
      clear hw6 w6
      cases hv : hasB voids nm with
      | true =>
        have hrs : res = openL ⟨nk, nm, rs, tx, par, ks⟩ := by rw [HRES.out]; simp [hv]
        have HF := (show Hid (PrW w0 b (.slice (some ⟨gb, go, none⟩) ns.length cap) (l ++ res) w5 ∧ PrK w0.heap.size b w w5) from by rw [hrs]; exact ⟨P5.out, K5.out⟩)
        clear hv hrs
        go_wp2
        refine bodyPost_ret (results_none rfl _ _ _) rfl ?_
        exact ⟨rfl, HF.out⟩
      | false =>
        have hrs : res = openL ⟨nk, nm, rs, tx, par, ks⟩ ++ out ++ closeL ⟨nk, nm, rs, tx, par, ks⟩ := by rw [HRES.out]; simp [hv]
        have HRS := (show Hid _ from hrs)
        have hrl := congrArg List.length hrs
        rw [List.length_append, List.length_append] at hrl
        have HRL := (show Hid _ from hrl)
        have HKC := (show Hid _ from HKO.out hv w5 _ P5.out (by have := HOL.out; rw [List.length_append]; omega))
        clear hv hrs hrl
        go_wp2_with fail
        go_at_call 80
        refine Calls.mono HKC.out ?_
        rintro e w7 ⟨rfl, h7, k7⟩
        have P7 := (show Hid (PrW w0 b (.slice (some ⟨gb, go, none⟩) ns.length cap) (l ++ openL ⟨nk, nm, rs, tx, par, ks⟩ ++ out) w7) from h7)
        have K7 := (show Hid (PrK w0.heap.size b w w7) from K5.out.trans k7)
        have G7 := (show Hid _ from k7.keepB G5.out hNb (by decide))
        have q1 := (six_at G7.out).1.2.1
        clear h7 k7 P5 K5 G5 m1 HKC
        go_wp2_with fail
        go_at_call 162
        refine Calls.mono (prNew_any P7.out.pr P7.out.bel.size [⟨#[60, 47]⟩, nm, ⟨#[62]⟩] _ rfl rfl (by simp) (by have := HRL.out; rw [List.length_append, List.length_append, show (flatS [⟨#[60, 47]⟩, nm, ⟨#[62]⟩]).length = nm.size + 3 by simp [flatS]]; omega)) ?_
        rintro e w8 ⟨rfl, h8, k8⟩
        have HE : Hid (l ++ openL ⟨nk, nm, rs, tx, par, ks⟩ ++ out ++ flatS [⟨#[60, 47]⟩, nm, ⟨#[62]⟩] = l ++ (openL ⟨nk, nm, rs, tx, par, ks⟩ ++ out ++ closeL ⟨nk, nm, rs, tx, par, ks⟩)) := (by simp [closeL, flatS] : l ++ openL ⟨nk, nm, rs, tx, par, ks⟩ ++ out ++ flatS [⟨#[60, 47]⟩, nm, ⟨#[62]⟩] = l ++ (openL ⟨nk, nm, rs, tx, par, ks⟩ ++ out ++ closeL ⟨nk, nm, rs, tx, par, ks⟩))
        rw [HE.out] at h8
        have HF := (show Hid (PrW w0 b (.slice (some ⟨gb, go, none⟩) ns.length cap) (l ++ res) w8 ∧ PrK w0.heap.size b w w8) from by rw [HRS.out]; exact ⟨P7.out.next h8 k8, K7.out.trans k8⟩)
        clear h8 k8 HE
        go_wp2
        go_end0
        exact ⟨rfl, HF.out⟩
end Go.Proofs.YtogdbjafibejdaaGreat

/- The printer's writeNode (written by mk/ipr4.py). No condition. -/
namespace Go.Proofs.YtogdbjafibejdaaGreat
open Go.RowKit
set_option maxRecDepth 100000
set_option linter.unusedVariables false

set_option maxHeartbeats 2000000 in
set_option maxRecDepth 100000 in
theorem prNode_any {w0 : World} {b : Nat} {a : Option Addr} {cap : Nat} {ns : List PNode} (hn : NodesAt w0 (.slice a ns.length cap) ns) {l : List UInt8} {w : World} (h : PrW w0 b (.slice a ns.length cap) l w) {k : Nat} (hk : k < ns.length) (hlen : ns.length ≤ 1048576) (hsm : SmallN ns[k])
    {out : List UInt8} (hK : ns[k].kind = 3 → hasB voids ns[k].name = false → KidsOk w0 b (.slice a ns.length cap) k out) (up : ByteArray) (hup : ns[k].kind = 4 → ∃ q : Nat, ns[k].parent = (q : Int) ∧ ∃ hq : q < ns.length, ns[q].name = up) (hl : l.length + (nodeL up ns[k] out).length ≤ 35184372088832) :
    Calls Tryz.prog 124 #[.pointer (some ⟨b, 0, none⟩), .int .i64 (k : Int)] w fun e w' => e = .returned (.tuple #[]) ∧ PrW w0 b (.slice a ns.length cap) (l ++ nodeL up ns[k] out) w' ∧ PrK w0.heap.size b w w' := by
  have hbl := h.pr.lt
  have HSM := (show Hid _ from hsm)
  have CE : Hid (∀ W, PrW w0 b (.slice a ns.length cap) l W → ns[k].kind = 3 → Calls Tryz.prog 163 #[.pointer (some ⟨b, 0, none⟩), .int .i64 (k : Int)] W fun e w' => e = .returned (.tuple #[]) ∧ PrW w0 b (.slice a ns.length cap) (l ++ (if hasB voids ns[k].name then openL ns[k] else openL ns[k] ++ out ++ closeL ns[k])) w' ∧ PrK w0.heap.size b W w') := fun W hW h3 => prElem_any hn hW hk hlen hsm (hK h3) (by have := hl; unfold nodeL at this; rw [if_neg (by omega), if_pos h3] at this; exact this)
  have CT : Hid (∀ W (q : Nat) (hq : q < ns.length), PrW w0 b (.slice a ns.length cap) l W → ns[q].name = up → ∀ (k : Int) (nm tx : ByteArray) (av1 : Option Addr) (av2 av3 : Nat) (kv1 : Option Addr) (kv2 kv3 : Nat), tx.size ≤ 1048576 → Calls Tryz.prog 164 #[.pointer (some ⟨b, 0, none⟩), .agg #[.int .i64 k, .string nm, .slice av1 av2 av3, .string tx, .int .i64 (q : Int), .slice kv1 kv2 kv3]] W fun e w' => e = .returned (.tuple #[]) ∧ PrW w0 b (.slice a ns.length cap) (l ++ textAs up tx) w' ∧ PrK w0.heap.size b W w') := fun W q hq hW e k nm tx av1 av2 av3 kv1 kv2 kv3 hs => by
    rw [← e]
    exact prText_any hn hW hq hlen k nm tx (av := .slice av1 av2 av3) (kv := .slice kv1 kv2 kv3) hs (by omega)
  obtain ⟨_, _, e1, _, _, hcs⟩ := hn.slice
  cases e1
  obtain ⟨gb, go, av, kv, rfl, hgl, c0, c1, c2, c3, c4, c5, hav, hkv⟩ := hcs k hk
  obtain ⟨av1, acap, rfl, _, _, _⟩ := hav.pair
  obtain ⟨kv1, kcap, rfl, hk1, hk2, _, _⟩ := hkv
  replace c0 := (h.bel.cell (p := ⟨gb, go + k * 6, none⟩) hgl).trans c0
  replace c1 := (h.bel.cell (p := ⟨gb, go + k * 6 + 1, none⟩) hgl).trans c1
  replace c2 := (h.bel.cell (p := ⟨gb, go + k * 6 + 2, none⟩) hgl).trans c2
  replace c3 := (h.bel.cell (p := ⟨gb, go + k * 6 + 3, none⟩) hgl).trans c3
  replace c4 := (h.bel.cell (p := ⟨gb, go + k * 6 + 4, none⟩) hgl).trans c4
  replace c5 := (h.bel.cell (p := ⟨gb, go + k * 6 + 5, none⟩) hgl).trans c5
  have cP := h.pr.cell0
  have HUP := (show Hid _ from hup)
  obtain ⟨nd, hnd⟩ : ∃ nd, nd = ns[k] := ⟨_, rfl⟩
  rw [← hnd] at c0 c1 c2 c3 c4 c5 hav hk1 HSM HUP CE ⊢
  obtain ⟨res, hres⟩ : ∃ res, res = nodeL up nd out := ⟨_, rfl⟩
  rw [← hres]
  have HRES := (show Hid (res = nodeL up nd out) from hres)
  have hnm := HSM.out.nm
  have htx := HSM.out.tx
  obtain ⟨nk, nm, rs, tx, par, ks⟩ := nd
  simp only at c0 c1 c2 c3 c4 c5 hav hk1 hnm htx HUP CE
  have hki : (k : Int) < ns.length := by omega
  obtain ⟨w1, hw1⟩ : ∃ x, x = w.alloc (.cells #[.int .i64 nk, .string nm, .slice av1 rs.length acap, .string tx, .int .i64 par, .slice kv1 ks.length kcap] 36) := ⟨_, rfl⟩
  have b1 : Below w.heap.size w w1 := by rw [hw1]; exact (Below.refl _ _).alloc (Nat.le_refl _) _
  have g1 : w1.heap[w.heap.size]? = some (.cells #[.int .i64 nk, .string nm, .slice av1 rs.length acap, .string tx, .int .i64 par, .slice kv1 ks.length kcap] 36 (0, 0)) := by rw [hw1]; exact World.alloc_heap_new _ _
  obtain ⟨N, hN⟩ : ∃ x, x = w.heap.size := ⟨_, rfl⟩
  rw [← hN] at g1
  have hNb : N ≠ b := by omega
  have G1 := (show Hid _ from g1)
  have P1 := (show Hid (PrW w0 b (.slice (some ⟨gb, go, none⟩) ns.length cap) l w1) from h.below b1)
  have K1 := (show Hid (PrK w0.heap.size b w w1) from PrK.of_below b1 hbl)
  obtain ⟨n0, n1, n2, n3, n4, n5⟩ := (six_at g1).1
  have hls : nm.data.toList.length = nm.size := by simp
  have hlt : tx.data.toList.length = tx.size := by simp
  have hll : l.length ≤ 35184372088832 := by omega
  clear hcs hn hnd hsm hav b1 g1 h hK hup hres hl
  go_enter Tryz.func124, Tryz.ntmps124
  go_upto_region 1 with fail
  rw [← hw1, ← hN]
  clear hw1 hN c0 c1 c2 c3 c4 c5
  by_cases h2 : nk = 2
  · subst h2
    go_wp2_with fail
    go_at_call 162
    refine Calls.mono (prNew_any P1.out.pr P1.out.bel.size [⟨#[60, 33, 68, 79, 67, 84, 89, 80, 69, 32]⟩, nm, ⟨#[62]⟩] _ rfl rfl (by simp) (by rw [show (flatS [⟨#[60, 33, 68, 79, 67, 84, 89, 80, 69, 32]⟩, nm, ⟨#[62]⟩]).length = 10 + (nm.size + 1) by (first | (simp [flatS]; done) | (simp [flatS]; omega))]; omega)) ?_
    rintro e w2 ⟨rfl, h2, k2⟩
    have hrs : res = flatS [⟨#[60, 33, 68, 79, 67, 84, 89, 80, 69, 32]⟩, nm, ⟨#[62]⟩] := by rw [HRES.out]; simp [nodeL, flatS, dtL]
    have HF := (show Hid (PrW w0 b (.slice (some ⟨gb, go, none⟩) ns.length cap) (l ++ res) w2 ∧ PrK w0.heap.size b w w2) from by rw [hrs]; exact ⟨P1.out.next h2 k2, K1.out.trans k2⟩)
    clear h2 k2 hrs
    go_wp2
    go_end0
    exact ⟨rfl, HF.out⟩
  by_cases h3 : nk = 3
  · subst h3
    go_wp2_with fail
    go_at_call 163
    refine Calls.mono (CE.out _ P1.out (by simp)) ?_
    rintro e w2 ⟨rfl, h2, k2⟩
    have hrs : res = (if hasB voids nm then openL ⟨3, nm, rs, tx, par, ks⟩ else openL ⟨3, nm, rs, tx, par, ks⟩ ++ out ++ closeL ⟨3, nm, rs, tx, par, ks⟩) := by rw [HRES.out]; simp [nodeL]
    have HF := (show Hid (PrW w0 b (.slice (some ⟨gb, go, none⟩) ns.length cap) (l ++ res) w2 ∧ PrK w0.heap.size b w w2) from by rw [hrs]; exact ⟨h2, K1.out.trans k2⟩)
    clear h2 k2 hrs
    go_wp2
    go_end0
    exact ⟨rfl, HF.out⟩
  by_cases h4 : nk = 4
  · subst h4
    obtain ⟨q, hpq, hq, hqn⟩ := HUP.out rfl
    subst hpq
    have HQ := (show Hid (ns[q].name = up) from hqn)
    clear hqn
    go_wp2_with fail
    go_at_call 164
    refine Calls.mono (CT.out _ q hq P1.out HQ.out 4 nm tx av1 rs.length acap kv1 ks.length kcap (by omega)) ?_
    rintro e w2 ⟨rfl, h2, k2⟩
    have hrs : res = textAs up tx := by rw [HRES.out]; simp [nodeL, textAs]
    have HF := (show Hid (PrW w0 b (.slice (some ⟨gb, go, none⟩) ns.length cap) (l ++ res) w2 ∧ PrK w0.heap.size b w w2) from by rw [hrs]; exact ⟨h2, K1.out.trans k2⟩)
    clear h2 k2 hrs
    go_wp2
    go_end0
    exact ⟨rfl, HF.out⟩
  by_cases h5 : nk = 5
  · subst h5
    go_wp2_with fail
    go_at_call 162
    refine Calls.mono (prNew_any P1.out.pr P1.out.bel.size [⟨#[60, 33, 45, 45]⟩, tx, ⟨#[45, 45, 62]⟩] _ rfl rfl (by simp) (by rw [show (flatS [⟨#[60, 33, 45, 45]⟩, tx, ⟨#[45, 45, 62]⟩]).length = 4 + (tx.size + 3) by (first | (simp [flatS]; done) | (simp [flatS]; omega))]; omega)) ?_
    rintro e w2 ⟨rfl, h2, k2⟩
    have hrs : res = flatS [⟨#[60, 33, 45, 45]⟩, tx, ⟨#[45, 45, 62]⟩] := by rw [HRES.out]; simp [nodeL, flatS, coL, coR]
    have HF := (show Hid (PrW w0 b (.slice (some ⟨gb, go, none⟩) ns.length cap) (l ++ res) w2 ∧ PrK w0.heap.size b w w2) from by rw [hrs]; exact ⟨P1.out.next h2 k2, K1.out.trans k2⟩)
    clear h2 k2 hrs
    go_wp2
    go_end0
    exact ⟨rfl, HF.out⟩
  have hrs : res = [] := by rw [HRES.out]; simp [nodeL, h2, h3, h4, h5]
  have HF := (show Hid (PrW w0 b (.slice (some ⟨gb, go, none⟩) ns.length cap) (l ++ res) w1 ∧ PrK w0.heap.size b w w1) from by rw [hrs, List.append_nil]; exact ⟨P1.out, K1.out⟩)
  clear hrs
  go_wp2
  go_end0
  exact ⟨rfl, HF.out⟩
end Go.Proofs.YtogdbjafibejdaaGreat
