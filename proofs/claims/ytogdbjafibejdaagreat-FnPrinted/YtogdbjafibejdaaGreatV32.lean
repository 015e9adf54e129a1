/- The program's TreeOk. No condition. -/
import Derived.Test.YtogdbjafibejdaaGreatV31
import Derived.Test.YtogdbjafibejdaaGreatV17
import Derived.Test.YtogdbjafibejdaaGreatV26
import Derived.Test.YtogdbjafibejdaaGreatV29
import Derived.Test.YtogdbjafibejdaaGreatV4
namespace Go.Proofs.YtogdbjafibejdaaGreat
open Go.RowKit
set_option maxRecDepth 100000
set_option linter.unusedVariables false

theorem eq_kinds (k0 : Int) (k : Nat) : (decide (k0 = 1) == decide (k = 0)) = decide ((k0 == 1) = ((k : Int) == 0)) := by
  rw [show (k0 == 1) = decide (k0 = 1) from rfl, show ((k : Int) == 0) = decide ((k : Int) = 0) from rfl]
  by_cases h1 : k0 = 1 <;> by_cases h2 : k = 0 <;> simp [h1, h2]

set_option maxHeartbeats 1000000 in
theorem itreeOk_any {w : World} {v : Value} {ns : List PNode} (hn : NodesAt w v ns) (hfit : ∀ n ∈ ns, NodeFit n) (hlen : ns.length ≤ 1048576) :
    Calls Tryz.prog 15 #[.agg #[v]] w fun e w' => ∃ r, e = .returned (.bool r) ∧ (r = true ↔ TreeOkP ns) ∧ Below w.heap.size w w' := by
  have HN := (show Hid (NodesAt w v ns) from hn)
  have HFIT := (show Hid (∀ n ∈ ns, NodeFit n) from hfit)
  obtain ⟨a, cap, rfl, hc1, hc2, hcs⟩ := hn.slice
  by_cases h1 : ns.length < 1
  · have hF : Hid (¬ TreeOkP ns) := fun h => by have := h.one; omega
    have h10 : ns.length = 0 := by omega
    clear hcs hn hfit
    go_enter Tryz.func15, Tryz.ntmps15
    go_wp2
    go_ret
    exact ⟨false, rfl, by simpa using hF.out, (Below.refl _ _).alloc (Nat.le_refl _) _⟩
  by_cases h5 : 500 < ns.length
  · have hF : Hid (¬ TreeOkP ns) := fun h => by have := h.most; omega
    clear hcs hn hfit
    go_enter Tryz.func15, Tryz.ntmps15
    go_wp2
    go_ret
    exact ⟨false, rfl, by simpa using hF.out, (Below.refl _ _).alloc (Nat.le_refl _) _⟩
  obtain ⟨b, off, _, _, rfl, hblt, _⟩ := hcs 0 (by omega)
  have HCS := (show Hid (∀ k (hk : k < ns.length), ∃ av kv, Sv 2 w av (pairCells ns[k].attrs) ∧ Sl .i64 w kv ns[k].kids ∧ w.cell? ⟨b, off + k * 6, none⟩ = some (.int .i64 ns[k].kind) ∧ w.cell? ⟨b, off + k * 6 + 1, none⟩ = some (.string ns[k].name) ∧ w.cell? ⟨b, off + k * 6 + 2, none⟩ = some av ∧ w.cell? ⟨b, off + k * 6 + 3, none⟩ = some (.string ns[k].text) ∧ w.cell? ⟨b, off + k * 6 + 4, none⟩ = some (.int .i64 ns[k].parent) ∧ w.cell? ⟨b, off + k * 6 + 5, none⟩ = some kv) from fun k hk => by
    obtain ⟨_, _, av, kv, e, _, c0, c1, c2, c3, c4, c5, hav, hkv⟩ := hcs k hk
    cases e
    exact ⟨av, kv, hav, hkv, c0, c1, c2, c3, c4, c5⟩)
  clear hcs hn hfit
  obtain ⟨w1, hw1⟩ : ∃ w1, w1 = w.alloc (.cells #[.slice (some ⟨b, off, none⟩) ns.length cap] 26) := ⟨_, rfl⟩
  have b1 : Below w.heap.size w w1 := by rw [hw1]; exact (Below.refl _ _).alloc (Nat.le_refl _) _
  have g1 : w1.heap[w.heap.size]? = some (.cells #[.slice (some ⟨b, off, none⟩) ns.length cap] 26 (0, 0)) := by rw [hw1]; exact World.alloc_heap_new _ _
  have HG1 := (show Hid _ from g1)
  clear g1
  go_enter Tryz.func15, Tryz.ntmps15
  go_wp2
  rw [← hw1]
  clear hw1
  go_loopw [19] (fun i wr => ∃ k : Nat, k ≤ ns.length ∧ i = .int .i64 k ∧ (∀ j (h : j < ns.length), j < k → goodB ns[j] j = true) ∧ Below w1.heap.size w1 wr) (fun i _ => ns.length - (intOf i).toNat)
  case atStart => exact ⟨0, Nat.zero_le _, rfl, fun j _ hj => absurd hj (Nat.not_lt_zero j), Below.refl _ _⟩
  case round =>
    obtain ⟨k, hk, rfl, hgood, bel⟩ := hrel
    have HGD := (show Hid (∀ j (h : j < ns.length), j < k → goodB ns[j] j = true) from hgood)
    have hb := b1.trans (bel.mono b1.size)
    clear hgood
    by_cases hlt : k < ns.length
    · obtain ⟨av, kv, hav, hkv, c0, c1, c2, c3, c4, c5⟩ := HCS.out k hlt
      replace c0 := (hb.cell (p := ⟨b, off + k * 6, none⟩) hblt).trans c0
      replace c1 := (hb.cell (p := ⟨b, off + k * 6 + 1, none⟩) hblt).trans c1
      replace c2 := (hb.cell (p := ⟨b, off + k * 6 + 2, none⟩) hblt).trans c2
      replace c3 := (hb.cell (p := ⟨b, off + k * 6 + 3, none⟩) hblt).trans c3
      replace c4 := (hb.cell (p := ⟨b, off + k * 6 + 4, none⟩) hblt).trans c4
      replace c5 := (hb.cell (p := ⟨b, off + k * 6 + 5, none⟩) hblt).trans c5
      have hav' := hav.below hb
      obtain ⟨av1, av2, av3, rfl, _⟩ := hav
      obtain ⟨kv1, kv3, rfl, _⟩ := hkv
      have hnf := HFIT.out ns[k] (List.getElem_mem hlt)
      have CN := (show Hid (∀ w', Below wr.heap.size wr w' → Calls Tryz.prog 59 #[.agg #[.int .i64 ns[k].kind, .string ns[k].name, .slice av1 av2 av3, .string ns[k].text, .int .i64 ns[k].parent, .slice kv1 ns[k].kids.length kv3]] w' fun e w'' => e = .returned (.bool (nodeB ns[k].kind ns[k].name ns[k].attrs ns[k].text ns[k].kids.length)) ∧ Below w'.heap.size w' w'') from fun w' hb' => inodeOk_any _ _ _ _ (hav'.below hb') hnf.nm hnf.tx hnf.rs hnf.each)
      have HGK : Hid (goodB ns[k] k = ((decide (ns[k].kind = 1) == decide (k = 0)) && nodeB ns[k].kind ns[k].name ns[k].attrs ns[k].text ns[k].kids.length)) := rfl
      have HBAD : Hid (goodB ns[k] k = false → ¬ TreeOkP ns) := fun h ht => by have := ht.good k hlt; rw [h] at this; cases this
      have HSUC : Hid (goodB ns[k] k = true → ∀ j (h : j < ns.length), j < k + 1 → goodB ns[j] j = true) := fun h j hj hjk => by
        by_cases e : j = k
        · subst e; exact h
        · exact HGD.out j hj (by omega)
      obtain ⟨gk, hgk⟩ : ∃ gk, gk = goodB ns[k] k := ⟨_, rfl⟩
      rw [← hgk] at HGK HBAD HSUC
      obtain ⟨nb, hnb⟩ : ∃ nb, nb = nodeB ns[k].kind ns[k].name ns[k].attrs ns[k].text ns[k].kids.length := ⟨_, rfl⟩
      rw [← hnb] at HGK CN
      obtain ⟨k0, hk0⟩ : ∃ k0, k0 = ns[k].kind := ⟨_, rfl⟩
      obtain ⟨k1, hk1⟩ : ∃ k1, k1 = ns[k].name := ⟨_, rfl⟩
      obtain ⟨k3, hk3⟩ : ∃ k3, k3 = ns[k].text := ⟨_, rfl⟩
      obtain ⟨k4, hk4⟩ : ∃ k4, k4 = ns[k].parent := ⟨_, rfl⟩
      obtain ⟨kl, hkl⟩ : ∃ kl, kl = ns[k].kids.length := ⟨_, rfl⟩
      rw [← hk0] at c0 HGK CN
      rw [← hk1] at c1 CN
      rw [← hk3] at c3 CN
      rw [← hk4] at c4 CN
      rw [← hkl] at c5 CN
      clear hgk hnb hk0 hk1 hk3 hk4 hkl hnf hav'
      obtain ⟨wx, hwx⟩ : ∃ wx, wx = wr.alloc (.cells #[.int .i64 k0, .string k1, .slice av1 av2 av3, .string k3, .int .i64 k4, .slice kv1 kl kv3] 36) := ⟨_, rfl⟩
      have bx : Below wr.heap.size wr wx := by rw [hwx]; exact (Below.refl _ _).alloc (Nat.le_refl _) _
      have HBX := (show Hid (Below wr.heap.size wr wx) from bx)
      have HQ : Hid ((decide (k0 = 1) == decide (k = 0)) = decide ((k0 == 1) = ((k : Int) == 0))) := eq_kinds k0 k
      rw [HQ.out] at HGK
      have hrs := HG1.out
      clear HQ hrs
      by_cases hq : (k0 == 1) = ((k : Int) == 0)
      · have HGQ : Hid (gk = nb) := HGK.out.trans (by rw [decide_eq_true hq]; exact Bool.true_and nb)
        go_wp2_with fail
        go_at_call 59
        rw [← hwx]
        refine (CN.out _ bx).mono ?_
        rintro e w2 ⟨rfl, b2⟩
        replace b2 := HBX.out.trans (b2.mono HBX.out.size)
        have HB2 := (show Hid (Below wr.heap.size wr w2) from b2)
        clear bx b2 hwx
        cases nb
        · go_wp2
          go_ret
          exact ⟨false, rfl, by simpa using HBAD.out HGQ.out, hb.trans (HB2.out.mono hb.size)⟩
        · go_wp2
          go_roundw
          case rel => exact ⟨k + 1, by omega, by go_num, HSUC.out HGQ.out, bel.trans (HB2.out.mono bel.size)⟩
          case measure => simp [intOf]; omega
      · have HBQ : Hid (¬ TreeOkP ns) := HBAD.out (HGK.out.trans (by rw [decide_eq_false hq]; rfl))
        go_wp2
        rw [← hwx]
        go_ret
        exact ⟨false, rfl, by simpa using HBQ.out, hb.trans (HBX.out.mono hb.size)⟩
    · have hke : k = ns.length := by omega
      have HALL : Hid (∀ j (h : j < ns.length), goodB ns[j] j = true) := fun j h => HGD.out j h (by omega)
      have g1 := (bel.block _ (blk_lt HG1.out)).trans HG1.out
      have cT : wr.cell? ⟨w.heap.size, 0, none⟩ = some (.slice (some ⟨b, off, none⟩) ns.length cap) := by simp only [World.cell?, g1]; rfl
      clear g1 HGD
      go_wp2_with fail
      obtain ⟨wA, hwA⟩ : ∃ wA, wA = wr.alloc (.cells #[.slice (some ⟨b, off, none⟩) ns.length cap] 77) := ⟨_, rfl⟩
      have bA : Below wr.heap.size wr wA := by rw [hwA]; exact (Below.refl _ _).alloc (Nat.le_refl _) _
      have hsA : wr.heap.size < wA.heap.size := by rw [hwA]; simp
      have gA : wA.heap[wr.heap.size]? = some (.cells #[.slice (some ⟨b, off, none⟩) ns.length cap] 77 (0, 0)) := by rw [hwA]; exact World.alloc_heap_new _ _
      have cA : wA.cell? ⟨wr.heap.size, 0, none⟩ = some (.slice (some ⟨b, off, none⟩) ns.length cap) := by simp only [World.cell?, gA]; rfl
      have bwA : Below w.heap.size w wA := hb.trans (bA.mono hb.size)
      have CF := (show Hid _ from kidsFit_any (HN.out.below bwA) hsA cA (by omega) (by omega))
      have CR := (show Hid (∀ w', Below wA.heap.size wA w' → KidsFit ns → Calls Tryz.prog 61 #[.pointer (some ⟨wr.heap.size, 0, none⟩)] w' fun e w'' => e = .returned (.bool (decide (reachN ns ns.length ns.length = ns.length))) ∧ Below w'.heap.size w' w'') from fun w' b' hkf =>
        allReached_any (f := ns.length) ((HN.out.below bwA).below b') (Nat.lt_of_lt_of_le hsA b'.size) ((b'.cell (p := ⟨wr.heap.size, 0, none⟩) hsA).trans cA) (by omega) (by omega) (deep_of_fit hkf) (by have := reach_le hkf; omega))
      go_at_call 60
      rw [← hwA]
      clear hwA gA cA
      refine Calls.mono CF.out ?_
      rintro e w2 ⟨r1, rfl, hr1, b2⟩
      have HR1 := (show Hid (r1 = true ↔ KidsFit ns) from hr1)
      have HB2 := (show Hid (Below wA.heap.size wA w2) from b2)
      have HBW := (show Hid (Below w.heap.size w w2) from bwA.trans (b2.mono bwA.size))
      clear hr1 b2
      cases r1
      · go_wp2
        go_ret
        have hno : ¬ TreeOkP ns := fun h => Bool.false_ne_true (HR1.out.mpr h.fit)
        exact ⟨false, rfl, ⟨fun h => (by cases h), fun h => absurd h hno⟩, HBW.out⟩
      · have hkf := HR1.out.mp rfl
        have HRI := (show Hid _ from reach_iff hkf)
        have C2 := CR.out w2 HB2.out hkf
        obtain ⟨r2, hr2⟩ : ∃ r2, r2 = decide (reachN ns ns.length ns.length = ns.length) := ⟨_, rfl⟩
        rw [← hr2] at C2
        have HR2 := (show Hid _ from hr2)
        have HC2 := (show Hid _ from C2)
        clear hr2 C2
        go_wp2_with fail
        go_at_call 61
        refine Calls.mono HC2.out ?_
        rintro e w3 ⟨rfl, b3⟩
        go_wp2
        go_ret
        refine ⟨r2, rfl, ?_, HBW.out.trans (b3.mono HBW.out.size)⟩
        rw [HR2.out, decide_eq_true_iff, HRI.out]
        exact ⟨fun h => ⟨by omega, by omega, HALL.out, hkf, h⟩, fun h => h.linked⟩
end Go.Proofs.YtogdbjafibejdaaGreat

/- The printer's write: parts one behind the other. No condition. -/
namespace Go.Proofs.YtogdbjafibejdaaGreat
open Go.RowKit
set_option maxRecDepth 100000
set_option linter.unusedVariables false

def flatS (ts : List ByteArray) : List UInt8 := ts.flatMap fun s => s.data.toList
theorem flatS_nil : flatS [] = [] := rfl
theorem flatS_cons (s : ByteArray) (ts : List ByteArray) : flatS (s :: ts) = s.data.toList ++ flatS ts := by simp [flatS]
theorem flatS_take {ts : List ByteArray} {k : Nat} (hk : k < ts.length) : flatS (ts.take (k + 1)) = flatS (ts.take k) ++ ts[k].data.toList := by
  rw [flatS, flatS, List.take_succ_eq_append_getElem hk, List.flatMap_append, List.flatMap_singleton]
theorem flatS_le (ts : List ByteArray) (k : Nat) : (flatS (ts.take k)).length ≤ (flatS ts).length := by
  conv => rhs; rw [← List.take_append_drop k ts]
  rw [flatS, flatS, List.flatMap_append, List.length_append]
  exact Nat.le_add_right _ _
theorem PrK.keepB {B b : Nat} {w w' : World} (h : PrK B b w w') {M : Nat} {cs : Array Value} {t : TypeId} {fz : Nat × Nat} (hM : w.heap[M]? = some (.cells cs t fz)) (hb : M ≠ b) (ht : t ≠ 5) : w'.heap[M]? = some (.cells cs t fz) :=
  h.same _ _ hM (.inr (.inl ⟨hb, fun ⟨_, _, _, e, ht'⟩ => by cases e; exact ht ht'⟩))

set_option maxHeartbeats 1000000 in
set_option maxRecDepth 100000 in
theorem prParts_any {B b M n : Nat} {nv : Value} {l : List UInt8} {w : World} (h : IsPr B b nv l w) (hBw : B ≤ w.heap.size) (ts : List ByteArray) (cs : Array Value) (hcs : cs.toList = ts.map Value.string) (hM : w.heap[M]? = some (.cells cs 9 (0, 0))) (hMb : M ≠ b) (hn : n = ts.length) (hn2 : ts.length ≤ 1000) (hlen : l.length + (flatS ts).length ≤ 70368744177664) :
    Calls Tryz.prog 162 #[.pointer (some ⟨b, 0, none⟩), .slice (some ⟨M, 0, none⟩) n n] w fun e w' => e = .returned (.tuple #[]) ∧ IsPr B b nv (l ++ flatS ts) w' ∧ PrK B b w w' := by
  subst hn
  have HM := (show Hid _ from hM)
  have HC := (show Hid (∀ w1, PrK B b w w1 → ∀ k (hk : k < ts.length), w1.cell? ⟨M, k, none⟩ = some (.string ts[k])) from fun w1 hg k hk => by
    have e := hg.keepB hM hMb (by decide)
    have e2 : cs[k]? = some (.string ts[k]) := by
      rw [← Array.getElem?_toList, hcs, List.getElem?_map, List.getElem?_eq_getElem hk]; rfl
    simp [World.cell?, e, e2])
  have HI := (show Hid (IsPr B b nv l w) from h)
  have hbl := h.lt
  clear h hM hcs
  go_enter Tryz.func162, Tryz.ntmps162
  go_wp2
  go_loopw [8] (fun i wr => ∃ k : Nat, k ≤ ts.length ∧ i = .int .i64 k ∧ Hid (IsPr B b nv (l ++ flatS (ts.take k)) wr ∧ PrK B b w wr)) (fun i _ => ts.length - (intOf i).toNat)
  case atStart => exact ⟨0, Nat.zero_le _, rfl, by simpa [flatS] using HI.out, PrK.refl hbl⟩
  case round =>
    obtain ⟨k, hk, rfl, HR⟩ := hrel
    by_cases hlt : k < ts.length
    · have ck := HC.out wr HR.out.2 k hlt
      have hfl := flatS_le ts (k + 1)
      rw [flatS_take hlt, List.length_append] at hfl
      have HT := (show Hid (flatS (ts.take (k + 1)) = flatS (ts.take k) ++ ts[k].data.toList) from flatS_take hlt)
      obtain ⟨s, hs⟩ : ∃ s, s = ts[k] := ⟨_, rfl⟩
      rw [← hs] at ck hfl HT
      have CW := (show Hid _ from prWrite_any HR.out.1 s (by rw [List.length_append]; simp at hfl ⊢; omega) (Nat.le_trans hBw HR.out.2.size))
      clear hs hfl
      go_wp2_with fail
      go_at_call 76
      refine Calls.mono CW.out ?_
      rintro e w2 ⟨rfl, h2, k2⟩
      have H2 := (show Hid (IsPr B b nv (l ++ flatS (ts.take (k + 1))) w2 ∧ PrK B b w w2) from ⟨by rw [HT.out, ← List.append_assoc]; exact h2, HR.out.2.trans k2⟩)
      clear h2 k2
      go_wp2
      go_roundw
      case rel => exact ⟨k + 1, by omega, by go_num, H2⟩
      case measure => simp [intOf]; omega
    · obtain rfl : k = ts.length := by omega
      have HF := (show Hid (IsPr B b nv (l ++ flatS ts) wr ∧ PrK B b w wr) from by have := HR.out; rwa [List.take_length] at this)
      clear HR
      go_wp2
      go_end0
      exact ⟨rfl, HF.out⟩
end Go.Proofs.YtogdbjafibejdaaGreat

/- The text below a node, in plain words. No condition. -/
namespace Go.Proofs.YtogdbjafibejdaaGreat
open Go.RowKit
set_option maxRecDepth 100000
set_option linter.unusedVariables false

/-- The bytes of a node's own text. -/
def txL (n : PNode) : List UInt8 := if n.kind = 4 then n.text.data.toList else []
def txAt (ns : List PNode) (k : Nat) : List UInt8 := (ns[k]?.map txL).getD []
theorem txAt_at {ns : List PNode} {k : Nat} (h : k < ns.length) : txAt ns k = txL ns[k] := by simp [txAt, h]
/-- The text of a node and of all that stand below it; f levels at most. -/
def textL (ns : List PNode) : Nat → Nat → List UInt8
  | 0, _ => []
  | f + 1, k => txAt ns k ++ (kidsOf ns k).flatMap fun x => textL ns f x.toNat
theorem text_down (ns : List PNode) : ∀ (f k : Nat), textL ns f k = (down ns f k).flatMap fun x => txAt ns x.toNat
  | 0, k => rfl
  | f + 1, k => by
    rw [textL, down, List.flatMap_cons, List.flatMap_assoc]
    have : (fun x : Int => textL ns f x.toNat) = fun x : Int => (down ns f x.toNat).flatMap fun x => txAt ns x.toNat := funext fun x => text_down ns f x.toNat
    rw [this]
    rfl
theorem deep_more {ns : List PNode} : ∀ (f g k : Nat), f ≤ g → deepOk ns f k → deepOk ns g k
  | 0, _, _, _, h => h.elim
  | f + 1, 0, _, h, _ => by omega
  | f + 1, g + 1, k, hfg, h => ⟨h.1, fun x hx => ⟨(h.2 x hx).1, deep_more f g x.toNat (by omega) (h.2 x hx).2⟩⟩
theorem text_deep {ns : List PNode} : ∀ (f g k : Nat), f ≤ g → deepOk ns f k → textL ns g k = textL ns f k
  | 0, _, _, _, h => h.elim
  | f + 1, 0, _, h, _ => by omega
  | f + 1, g + 1, k, hfg, h => by
    rw [textL, textL]
    congr 1
    have : ∀ (l : List Int), (∀ x ∈ l, textL ns g x.toNat = textL ns f x.toNat) → l.flatMap (fun x => textL ns g x.toNat) = l.flatMap (fun x => textL ns f x.toNat) := fun l hl => by
      induction l with
      | nil => rfl
      | cons a l ih => rw [List.flatMap_cons, List.flatMap_cons, hl a (by simp), ih (fun x hx => hl x (by simp [hx]))]
    exact this _ fun x hx => text_deep f g x.toNat (by omega) (h.2 x hx).2
theorem tree_deep {ns : List PNode} (h : TreeOkP ns) {k : Nat} (hk : k < ns.length) : deepOk ns ns.length k := by
  obtain ⟨d, hd⟩ := h.linked k hk
  have hlt := dep_lt h.fit hd
  exact deep_more (ns.length - d) ns.length k (by omega) (dep_deep h.fit (ns.length - d) d k (by omega) hd)
/-- What stands below stands deeper. -/
theorem down_deeper {ns : List PNode} (hf : KidsFit ns) : ∀ (f d s : Nat), dep ns d s → ∀ x ∈ down ns f s, 0 ≤ x ∧ ∃ e, d ≤ e ∧ dep ns e x.toNat
  | 0, d, s, h, x, hx => by cases hx
  | f + 1, d, s, h, x, hx => by
    rw [down, List.mem_cons] at hx
    rcases hx with rfl | hx
    · exact ⟨by omega, d, Nat.le_refl _, by simpa using h⟩
    · obtain ⟨y, hy, hx⟩ := List.mem_flatMap.mp hx
      obtain ⟨j1, j2, j3, j4⟩ := fit_kid hf hy
      have hd : dep ns (d + 1) y.toNat := ⟨s, h, by rw [Int.toNat_of_nonneg j2]; exact hy⟩
      obtain ⟨h0, e, he, hde⟩ := down_deeper hf f (d + 1) y.toNat hd x hx
      exact ⟨h0, e, by omega, hde⟩
theorem down_once {ns : List PNode} (hf : KidsFit ns) {f s d : Nat} (hs : dep ns d s) (hdp : deepOk ns f s) : ∀ (e i : Nat), dep ns e i → (down ns f s).count (i : Int) ≤ 1
  | 0, i, h => by
    have hk : ∀ p, (i : Int) ∉ kidsOf ns p := fun p hp => by
      have := (fit_kid hf hp).2.2.2
      simp only [Int.toNat_natCast] at this
      rw [h.2] at this
      omega
    rw [down_root hf hk f s hdp]
    split <;> omega
  | e + 1, i, h => by
    obtain ⟨p, hp, hk⟩ := h
    rw [down_count hf hk f s hdp]
    by_cases his : i = s
    · subst his
      have h0 : (down ns f i).count (p : Int) = 0 := by
        rw [List.count_eq_zero]
        intro hm
        obtain ⟨_, e', he', hde⟩ := down_deeper hf f d i hs (p : Int) hm
        simp only [Int.toNat_natCast] at hde
        have e1 := dep_uniq hf e e' p hp hde
        have e2 := dep_uniq hf d (e + 1) i hs ⟨p, hp, hk⟩
        omega
      rw [h0]
      simp
    · rw [if_neg his]
      exact down_once hf hs hdp e p hp
theorem down_few {ns : List PNode} (h : TreeOkP ns) {k : Nat} (hk : k < ns.length) : (down ns ns.length k).length ≤ ns.length := by
  obtain ⟨d, hd⟩ := h.linked k hk
  have hin : ∀ x ∈ down ns ns.length k, 0 ≤ x ∧ x < ns.length ∧ ∃ e, dep ns e x.toNat := down_dep h.fit ns.length d k hd
  refine nodup_le ns.length _ ?_ (fun x hx => ⟨(hin x hx).1, (hin x hx).2.1⟩)
  rw [List.nodup_iff_count]
  intro x
  by_cases hx : x ∈ down ns ns.length k
  · obtain ⟨j1, j2, e, he⟩ := hin x hx
    have := down_once h.fit hd (tree_deep h hk) e x.toNat he
    rwa [Int.toNat_of_nonneg j1] at this
  · rw [List.count_eq_zero.mpr hx]; omega
theorem txL_len {n : PNode} (h : n.text.size ≤ 1048576) : (txL n).length ≤ 1048576 := by
  unfold txL
  split
  · simpa using h
  · simp
theorem flatB_len {l : List Int} {g : Int → List UInt8} {m : Nat} (h : ∀ x, (g x).length ≤ m) : (l.flatMap g).length ≤ l.length * m := by
  induction l with
  | nil => simp
  | cons a l ih =>
    rw [List.flatMap_cons, List.length_append, List.length_cons, Nat.succ_mul]
    have := h a
    omega
theorem txAt_len {ns : List PNode} (h : ∀ n ∈ ns, n.text.size ≤ 1048576) (k : Nat) : (txAt ns k).length ≤ 1048576 := by
  by_cases hk : k < ns.length
  · rw [txAt_at hk]; exact txL_len (h _ (List.getElem_mem hk))
  · simp [txAt, hk]
theorem text_len {ns : List PNode} (h : TreeOkP ns) (hf : ∀ n ∈ ns, n.text.size ≤ 1048576) {k : Nat} (hk : k < ns.length) : (textL ns ns.length k).length ≤ 524288000 := by
  rw [text_down]
  have h1 := flatB_len (l := down ns ns.length k) (g := fun x => txAt ns x.toNat) (fun x => txAt_len hf x.toNat)
  have h2 := down_few h hk
  have h3 := h.most
  have : (down ns ns.length k).length * 1048576 ≤ 500 * 1048576 := Nat.mul_le_mul_right _ (by omega)
  omega
end Go.Proofs.YtogdbjafibejdaaGreat

/- Trees that are right as the specification has it, in plain words. No condition. -/
namespace Go.Proofs.YtogdbjafibejdaaGreat
open Go.RowKit
set_option maxRecDepth 100000
set_option linter.unusedVariables false

/-- What the specification asks: the document's words, and that the page has no Parent. -/
def STreeOkP (ns : List PNode) : Prop := TreeOkP ns ∧ parOf ns 0 = -1

/-- The Parent is a node's number, or -1; that of node 0 is -1. -/
def SPar (ns : List PNode) (k : Nat) : Prop := -1 ≤ parOf ns k ∧ parOf ns k ≤ ns.length - 1 ∧ (k = 0 → parOf ns k = -1)
theorem tree_par {ns : List PNode} (h : STreeOkP ns) {k : Nat} (hk : k < ns.length) : SPar ns k := by
  obtain ⟨d, hd⟩ := h.1.linked k hk
  refine ⟨?_, ?_, fun e => e ▸ h.2⟩
  all_goals
    cases d with
    | zero => have := hd.2; omega
    | succ d =>
      obtain ⟨p, hp, hm⟩ := hd
      have := fit_kid h.1.fit hm
      rw [show ((k : Int)).toNat = k by simp] at this
      omega
theorem tree_kid {ns : List PNode} (h : STreeOkP ns) {k : Nat} {x : Int} (hx : x ∈ kidsOf ns k) : 1 ≤ x ∧ x ≤ ns.length - 1 := by
  have hk := fit_kid h.1.fit hx
  by_cases e : x = 0
  · have h3 := hk.2.2.2
    rw [e] at h3
    have h4 := h.2
    rw [show (0 : Int).toNat = 0 from rfl] at h3
    omega
  · omega
theorem tree_bad {ns : List PNode} {k : Nat} {pre : List Int} (hk : k < ns.length) (hb : BadPre ns k pre) (hp : pre <+: kidsOf ns k) (hf : ∀ i, i < k → FitPre ns i (kidsOf ns i)) : ¬ STreeOkP ns := fun h => bad_not hk hb hp hf h.1.fit

/-- The array's cells tell what stands; N of them. -/
def StandsN (N : Nat) (ns : List PNode) (k : Nat) (pre : List Int) (arr : Array Value) : Prop := arr.size = N ∧ ∀ j, j < N → ∃ b, arr[j]? = some (.bool b) ∧ (b = true ↔ Stand ns k pre j)
theorem StandsN.snoc {N : Nat} {ns : List PNode} {k : Nat} {pre : List Int} {arr : Array Value} (h : StandsN N ns k pre arr) (j : Nat) (hj : j < N) : StandsN N ns k (pre ++ [(j : Int)]) (arr.setIfInBounds j (.bool true)) := by
  refine ⟨by simpa using h.1, fun i hi => ?_⟩
  by_cases e : j = i
  · subst e
    refine ⟨true, ?_, ?_⟩
    · have := h.1; simp [this, hj]
    · simp [Stand]
  · obtain ⟨b, hb, hs⟩ := h.2 i hi
    refine ⟨b, by rw [Array.getElem?_setIfInBounds]; simp [e, hb], hs.trans ?_⟩
    have : ¬ ((i : Int) = (j : Int)) := by omega
    simp [Stand, this]
theorem StandsN.next {N : Nat} {ns : List PNode} {k : Nat} {arr : Array Value} (h : StandsN N ns k (kidsOf ns k) arr) : StandsN N ns (k + 1) [] arr := by
  refine ⟨h.1, fun i hi => ?_⟩
  obtain ⟨b, hb, hs⟩ := h.2 i hi
  refine ⟨b, hb, hs.trans ?_⟩
  simp only [Stand, List.not_mem_nil, false_or]
  constructor
  · rintro (hm | ⟨j, hj, hm⟩)
    · exact ⟨k, by omega, hm⟩
    · exact ⟨j, by omega, hm⟩
  · rintro ⟨j, hj, hm⟩
    by_cases e : j = k
    · subst e; exact .inl hm
    · exact .inr ⟨j, by omega, hm⟩
theorem standsN_zero (N : Nat) (ns : List PNode) (arr : Array Value) (h : arr = Array.replicate N (.bool false)) : StandsN N ns 0 [] arr := by
  subst h
  refine ⟨by simp, fun j hj => ⟨false, by simp [hj], ?_⟩⟩
  simp [Stand]

/-- k steps up. -/
def up (ns : List PNode) : Nat → Nat → Int
  | 0, i => i
  | k + 1, i => parOf ns (up ns k i).toNat
theorem up_shift {ns : List PNode} {i p : Nat} (h : parOf ns i = p) : ∀ m, up ns (m + 1) i = up ns m p
  | 0 => by simp [up, h]
  | m + 1 => by
    show parOf ns (up ns (m + 1) i).toNat = parOf ns (up ns m p).toNat
    rw [up_shift h m]
theorem dep_up {ns : List PNode} (hf : KidsFit ns) : ∀ (d i : Nat), dep ns d i → up ns (d + 1) i = -1
  | 0, i, h => by simpa [up] using h.2
  | d + 1, i, ⟨p, hp, hk⟩ => by
    have := (fit_kid hf hk).2.2.2
    rw [show ((i : Int)).toNat = i by simp] at this
    rw [up_shift this, dep_up hf d p hp]
/-- In a right tree a way up ends in time. -/
theorem tree_up {ns : List PNode} (h : STreeOkP ns) {i : Nat} (hi : i < ns.length) : ∃ d, d ≤ ns.length ∧ up ns d i < 0 := by
  obtain ⟨d, hd⟩ := h.1.linked i hi
  have := dep_lt h.1.fit hd
  exact ⟨d + 1, by omega, by rw [dep_up h.1.fit d i hd]; omega⟩
theorem tree_seen {ns : List PNode} (h : STreeOkP ns) {i : Nat} (hi : i < ns.length) : Stand ns ns.length [] i ↔ 0 ≤ parOf ns i := by
  obtain ⟨d, hd⟩ := h.1.linked i hi
  constructor
  · rintro (hm | ⟨p, hp, hm⟩)
    · cases hm
    · have := (fit_kid h.1.fit hm).2.2.2
      rw [show ((i : Int)).toNat = i by simp] at this
      omega
  · intro h0
    cases d with
    | zero => have := hd.2; omega
    | succ d =>
      obtain ⟨p, hp, hm⟩ := hd
      exact .inr ⟨p, (fit_kid h.1.fit hm).1, hm⟩
/-- What the loops look for makes a right tree. -/
theorem tree_of {ns : List PNode} (h1 : 1 ≤ ns.length) (h5 : ns.length ≤ 500) (hg : ∀ k (h : k < ns.length), goodB ns[k] k = true) (hp : ∀ k, k < ns.length → SPar ns k) (hf : KidsFit ns)
    (hs : ∀ i, i < ns.length → (Stand ns ns.length [] i ↔ 0 ≤ parOf ns i)) (hu : ∀ i, i < ns.length → ∃ d, up ns d i < 0) : STreeOkP ns := by
  refine ⟨⟨h1, h5, hg, hf, ?_⟩, (hp 0 (by omega)).2.2 rfl⟩
  have key : ∀ d i, i < ns.length → up ns d i < 0 → ∃ e, dep ns e i := by
    intro d
    induction d with
    | zero => intro i _ h; simp [up] at h; omega
    | succ d ih =>
      intro i hi h
      by_cases h0 : 0 ≤ parOf ns i
      · obtain ⟨p, hpp⟩ : ∃ p : Nat, parOf ns i = p := ⟨(parOf ns i).toNat, by omega⟩
        rcases (hs i hi).mpr h0 with hm | ⟨q, hq, hm⟩
        · cases hm
        · have := (fit_kid hf hm).2.2.2
          rw [show ((i : Int)).toNat = i by simp] at this
          have : p = q := by omega
          subst this
          rw [up_shift hpp] at h
          obtain ⟨e, he⟩ := ih p hq h
          exact ⟨e + 1, p, he, hm⟩
      · exact ⟨0, hi, by have := (hp i hi).1; omega⟩
  exact fun i hi => by obtain ⟨d, hd⟩ := hu i hi; exact key d i hi hd
end Go.Proofs.YtogdbjafibejdaaGreat

/- A row of open elements, in plain words. No condition. -/
namespace Go.Proofs.YtogdbjafibejdaaGreat
open Go.RowKit
set_option maxRecDepth 100000
set_option linter.unusedVariables false

def nmOf (ns : List PNode) (x : Int) : ByteArray := (ns[x.toNat]?.map PNode.name).getD ⟨#[]⟩
def kdOf (ns : List PNode) (x : Int) : Int := (ns[x.toNat]?.map PNode.kind).getD 0
theorem nmOf_at {ns : List PNode} {k : Nat} (h : k < ns.length) : nmOf ns (k : Int) = ns[k].name := by simp [nmOf, h]
theorem kdOf_at {ns : List PNode} {k : Nat} (h : k < ns.length) : kdOf ns (k : Int) = ns[k].kind := by simp [kdOf, h]
/-- The number x is that of an element. -/
def elB (ns : List PNode) (x : Int) : Bool := inB x 0 ((ns.length : Int) - 1) && decide (kdOf ns x = 3)
theorem inB_at {ns : List PNode} {x : Int} (h : inB x 0 ((ns.length : Int) - 1) = true) : ∃ k : Nat, x = (k : Int) ∧ k < ns.length := by
  have h' : 0 ≤ x ∧ x ≤ (ns.length : Int) - 1 := by simpa [inB] using h
  exact ⟨x.toNat, by omega, by omega⟩
theorem elB_at {ns : List PNode} {x : Int} (h : elB ns x = true) : ∃ k : Nat, x = (k : Int) ∧ k < ns.length := by
  rw [elB, Bool.and_eq_true] at h
  exact inB_at h.1
structure RowP (ns : List PNode) (row : List Int) : Prop where
  len : row.length ≤ 40
  el : ∀ i (h : i < row.length), elB ns row[i] = true
  once : ∀ i k (h : i < row.length) (hk : k < i), row[k] ≠ row[i]
/-- One more than the place of the last one that fits among the first n; 0 where there is none. -/
def lastAt (p : Int → Bool) (xs : List Int) : Nat → Nat
  | 0 => 0
  | n + 1 => if p (xs.getD n 0) then n + 1 else lastAt p xs n
theorem lastAt_le (p : Int → Bool) (xs : List Int) (n : Nat) : lastAt p xs n ≤ n := by
  induction n with
  | zero => exact Nat.le_refl _
  | succ n ih => unfold lastAt; split <;> omega
theorem lastAt_no {p : Int → Bool} {xs : List Int} {n : Nat} (h : p (xs.getD n 0) = false) : lastAt p xs (n + 1) = lastAt p xs n := by rw [lastAt, h]; rfl
theorem lastAt_yes {p : Int → Bool} {xs : List Int} {n : Nat} (h : p (xs.getD n 0) = true) : lastAt p xs (n + 1) = n + 1 := by rw [lastAt, h]; rfl
theorem lastAt_above {p : Int → Bool} {xs : List Int} {n : Nat} : ∀ i, lastAt p xs n ≤ i → i < n → p (xs.getD i 0) = false := by
  induction n with
  | zero => intro i _ h; omega
  | succ n ih =>
    intro i h1 h2
    cases hp : p (xs.getD n 0) with
    | true => rw [lastAt_yes hp] at h1; omega
    | false =>
      rw [lastAt_no hp] at h1
      by_cases e : i = n
      · subst e; exact hp
      · exact ih i h1 (by omega)
end Go.Proofs.YtogdbjafibejdaaGreat

/- A tree with a node more behind, in plain words. No condition. -/
namespace Go.Proofs.YtogdbjafibejdaaGreat
open Go.RowKit
set_option maxRecDepth 100000
set_option linter.unusedVariables false

theorem kidsOf_snoc {ns : List PNode} {nd : PNode} (hk : nd.kids = []) (k : Nat) : kidsOf (ns ++ [nd]) k = kidsOf ns k := by
  unfold kidsOf
  by_cases h : k < ns.length
  · rw [List.getElem?_append_left h]
  · rw [List.getElem?_append_right (by omega), List.getElem?_eq_none (by omega : ns.length ≤ k)]
    by_cases h2 : k = ns.length
    · subst h2; simp [hk]
    · rw [List.getElem?_eq_none (by simp; omega)]
theorem parOf_snoc {ns : List PNode} {nd : PNode} (hp : nd.parent = -1) (k : Nat) : parOf (ns ++ [nd]) k = parOf ns k := by
  unfold parOf
  by_cases h : k < ns.length
  · rw [List.getElem?_append_left h]
  · rw [List.getElem?_append_right (by omega), List.getElem?_eq_none (by omega : ns.length ≤ k)]
    by_cases h2 : k = ns.length
    · subst h2; simp [hp]
    · rw [List.getElem?_eq_none (by simp; omega)]
theorem dep_snoc {ns : List PNode} {nd : PNode} (hk : nd.kids = []) (hp : nd.parent = -1) : ∀ (d i : Nat), dep ns d i → dep (ns ++ [nd]) d i
  | 0, i, h => ⟨by have := h.1; simp; omega, by rw [parOf_snoc hp]; exact h.2⟩
  | d + 1, i, h => by
    obtain ⟨p, h1, h2⟩ := h
    exact ⟨p, dep_snoc hk hp d p h1, by rw [kidsOf_snoc hk]; exact h2⟩

/-- An element below none may be put behind, where there is room. -/
theorem tree_snoc {ns : List PNode} (h : TreeOkP ns) {nd : PNode} (hk : nd.kids = []) (hp : nd.parent = -1) (hn : nd.kind ≠ 1) (hg : nodeB nd.kind nd.name nd.attrs nd.text nd.kids.length = true) (hl : ns.length < 500) : TreeOkP (ns ++ [nd]) := by
  have h1 := h.one
  refine ⟨by simp, by simp; omega, fun k hlt => ?_, fun k hlt => ?_, fun i hi => ?_⟩
  · by_cases hk2 : k < ns.length
    · rw [List.getElem_append_left hk2]
      exact h.good k hk2
    · have e : k = ns.length := by simp at hlt; omega
      subst e
      rw [List.getElem_append_right (Nat.le_refl _)]
      simp only [Nat.sub_self, List.getElem_cons_zero]
      rw [goodB, hg, decide_eq_false hn, decide_eq_false (by omega)]
      rfl
  · rw [kidsOf_snoc hk]
    by_cases hk2 : k < ns.length
    · obtain ⟨f1, f2⟩ := h.fit k hk2
      refine ⟨f1, fun x hx => ?_⟩
      obtain ⟨g1, g2, g3⟩ := f2 x hx
      exact ⟨g1, by simp; omega, by rw [parOf_snoc hp]; exact g3⟩
    · rw [kidsOf_out hk2]
      exact ⟨List.nodup_nil, fun x hx => by cases hx⟩
  · by_cases hi2 : i < ns.length
    · obtain ⟨d, hd⟩ := h.linked i hi2
      exact ⟨d, dep_snoc hk hp d i hd⟩
    · refine ⟨0, hi, ?_⟩
      rw [parOf_snoc hp, parOf, List.getElem?_eq_none (by omega)]
      rfl
theorem tree_full {ns : List PNode} {nd : PNode} (hl : ¬ ns.length < 500) : ¬ TreeOkP (ns ++ [nd]) := fun h => by
  have := h.most
  simp at this
  omega
end Go.Proofs.YtogdbjafibejdaaGreat
