/- The program's write: a text below a node, in an arena of its own. No condition. -/
import Derived.Test.YtogdbjafibejdaaGreatV47
import Derived.Test.YtogdbjafibejdaaGreatV40
import Derived.Test.YtogdbjafibejdaaGreatV15
import Derived.Test.YtogdbjafibejdaaGreatV24
import Derived.Test.YtogdbjafibejdaaGreatV44
import Derived.Test.YtogdbjafibejdaaGreatV46
import Derived.Test.YtogdbjafibejdaaGreatV42
namespace Go.Proofs.YtogdbjafibejdaaGreat
open Go.RowKit
set_option maxRecDepth 100000
set_option linter.unusedVariables false

theorem OpFr.of_add {B a : Nat} {w w' : World} (h : AddFr B a w w') : OpFr B a w w' := ⟨h.os, h.tape, h.output, h.size, fun j hj hja hb => h.block j hj hja (hb.imp id (fun hh cs t fr e => (hh cs t fr e).1))⟩
/-- The new Text in the row of nodes. -/
def textQ (q : PNode × (Value × Value)) (s : ByteArray) : PNode × (Value × Value) := (setText q.1 s, q.2)
theorem OwnQ.text {B : Nat} {w : World} {g n cap : Nat} {qs : List (PNode × (Value × Value))} (h : OwnQ B w (.slice (some ⟨g, 0, none⟩) n cap) qs) {c : Nat} (hc : c < qs.length) (s : ByteArray) : OwnQ B (w.setCell ⟨g, c * 6 + 3, none⟩ (.string s)) (.slice (some ⟨g, 0, none⟩) n cap) (qs.set c (textQ qs[c] s)) := by
  have hn := h.len
  subst hn
  have hst := h.1.stored (c * 6 + 3) (.string s)
  have hset := nodeCells_set qs c hc (textQ qs[c] s) 3 (by omega) (.string s) (by simp [textQ, setText, nodeRow])
  rw [← hset] at hst
  refine ⟨by simpa using hst.1, fun q hqm => ?_⟩
  rcases List.mem_or_eq_of_mem_set hqm with hqm | rfl
  · exact lists_kept h.1 hst.2 (h.2 q hqm)
  · exact lists_kept (q := textQ qs[c] s) h.1 hst.2 (h.2 qs[c] (List.getElem_mem hc))
theorem more_map {qs : List (PNode × (Value × Value))} {k : Nat} (hk : k < qs.length) (s : ByteArray) : (qs.set k (textQ qs[k] (qs[k].1.text ++ s))).map (fun q => q.1) = moreN (qs.map (fun q => q.1)) k s := map_modify hk rfl

theorem sv_nil0 (w : World) : Sv 2 w (.slice none 0 0) (pairCells []) := ⟨none, 0, 0, rfl, rfl, Nat.le_refl _, by decide, (fun _ => rfl), fun j hj => absurd hj (by simp [pairCells])⟩
/-- What write says. -/
def WriteOut (B a : Nat) (qs : List (PNode × (Value × Value))) (p : Int) (s : ByteArray) (ms : List PNode) (w : World) (e : Ending) (w' : World) : Prop :=
  ∃ r : Bool, e = .returned (.bool r) ∧ (r = true ↔ (0 ≤ p ∧ p < qs.length) ∧ empB s = false ∧ utfOk (bs s) = true) ∧ (∃ g' n' c', w'.heap[a]? = some (.cells #[.slice (some ⟨g', 0, none⟩) n' c'] 77 (0, 0)) ∧ (r = true → ∃ qs', qs'.map (fun q => q.1) = ms ∧ OwnQ B w' (.slice (some ⟨g', 0, none⟩) n' c') qs')) ∧ OpFr B a w w'

set_option maxHeartbeats 2000000 in
set_option maxRecDepth 100000 in
theorem iwrite_any {B a g cap : Nat} {w : World} {qs : List (PNode × (Value × Value))} {ms : List PNode} (ha : w.heap[a]? = some (.cells #[.slice (some ⟨g, 0, none⟩) qs.length cap] 77 (0, 0))) (hO : OwnQ B w (.slice (some ⟨g, 0, none⟩) qs.length cap) qs) (hA : Apart qs) (hB : B ≤ w.heap.size) (h0 : 0 < qs.length) (hlen : qs.length ≤ 500)
    (hkl : ∀ q ∈ qs, q.1.kids.length ≤ 1000000) (hkin : ∀ q ∈ qs, ∀ x ∈ q.1.kids, 0 ≤ x ∧ x < qs.length) (htx : ∀ q ∈ qs, q.1.text.size ≤ 1048576) (p : Int) (s : ByteArray) (hs : s.size ≤ 1048576)
    (hms : (∃ k, LastT (qs.map (fun q => q.1)) p.toNat k ∧ ms = moreN (qs.map (fun q => q.1)) k s) ∨ ((¬ ∃ k, LastT (qs.map (fun q => q.1)) p.toNat k) ∧ ms = newN (qs.map (fun q => q.1)) p.toNat s)) :
    Calls Tryz.prog 70 #[.pointer (some ⟨a, 0, none⟩), .int .i64 p, .string s] w (WriteOut B a qs p s ms w) := by
  have HA := (show Hid _ from ha)
  have HO := (show Hid (OwnQ B w (.slice (some ⟨g, 0, none⟩) qs.length cap) qs) from hO)
  have HAP := (show Hid (Apart qs) from hA)
  have HKL := (show Hid (∀ q ∈ qs, q.1.kids.length ≤ 1000000) from hkl)
  have HKI := (show Hid (∀ q ∈ qs, ∀ x ∈ q.1.kids, 0 ≤ x ∧ x < qs.length) from hkin)
  have HTX := (show Hid (∀ q ∈ qs, q.1.text.size ≤ 1048576) from htx)
  have HMS := (show Hid _ from hms)
  have cA := (one_cell ha).1
  have CT := (show Hid _ from fun W => textOk_any s W (by omega))
  obtain ⟨u, eu⟩ : ∃ u, u = utfOk (bs s) := ⟨_, rfl⟩
  rw [← eu] at CT
  have EU := (show Hid (u = utfOk (bs s)) from eu)
  have NO : Hid (¬ ((0 ≤ p ∧ p < qs.length) ∧ empB s = false ∧ u = true) → ∀ W, Below w.heap.size w W → WriteOut B a qs p s ms w (.returned (.bool false)) W) := fun h W b => ⟨false, rfl, ⟨(fun h' => by cases h'), fun h' => absurd ⟨h'.1, h'.2.1, eu.trans h'.2.2⟩ h⟩, ⟨g, _, _, (b.block a (lt_of_block ha)).trans ha, (fun h' => by cases h')⟩, OpFr.of_below b⟩
  clear ha hO hA hkl hkin htx hms eu
  by_cases hp : 0 ≤ p ∧ p < qs.length
  rotate_left
  · have CH : Hid (Calls Tryz.prog 74 #[.pointer (some ⟨a, 0, none⟩), .int .i64 p] w fun e w' => e = .returned (.bool false) ∧ w' = w) := (ihas_any cA p).mono (by rintro e w' ⟨rfl, rfl⟩; exact ⟨by rw [decide_eq_false hp], rfl⟩)
    have NO' := (show Hid _ from NO.out (fun h => hp h.1))
    go_enter Tryz.func70, Tryz.ntmps70
    go_wp2_with fail
    go_at_call 74
    refine Calls.mono CH.out ?_
    rintro e w' ⟨rfl, rfl⟩
    go_wp2
    go_ret
    exact NO'.out _ (Below.refl _ _)
  have CH : Hid (Calls Tryz.prog 74 #[.pointer (some ⟨a, 0, none⟩), .int .i64 p] w fun e w' => e = .returned (.bool true) ∧ w' = w) := (ihas_any cA p).mono (by rintro e w' ⟨rfl, rfl⟩; exact ⟨by rw [decide_eq_true hp], rfl⟩)
  by_cases hse : s.toList = []
  · have NO' := (show Hid _ from NO.out (fun h => by have := h.2.1; simp [empB, hse] at this))
    go_enter Tryz.func70, Tryz.ntmps70
    go_wp2_with fail
    go_at_call 74
    refine Calls.mono CH.out ?_
    rintro e w' ⟨rfl, rfl⟩
    go_wp2
    go_ret
    exact NO'.out _ (Below.refl _ _)
  cases u
  · have NO' := (show Hid _ from NO.out (fun h => by have := h.2.2; cases this))
    go_enter Tryz.func70, Tryz.ntmps70
    go_wp2_with fail
    go_at_call 74
    refine Calls.mono CH.out ?_
    rintro e w' ⟨rfl, rfl⟩
    go_wp2_with fail
    go_at_call 112
    refine Calls.mono (CT.out _) ?_
    rintro e w2 ⟨rfl, b2⟩
    go_wp2
    go_ret
    exact NO'.out _ b2
  have hie : s.toList.isEmpty = false := by
    cases e : s.toList with
    | nil => exact absurd e hse
    | cons a l => rfl
  obtain ⟨pn, rfl⟩ : ∃ pn : Nat, p = pn := ⟨p.toNat, by omega⟩
  rw [Int.toNat_natCast] at HMS
  have hpn : pn < qs.length := by omega
  have YES : Hid ((0 ≤ (pn : Int) ∧ (pn : Int) < qs.length) ∧ empB s = false ∧ utfOk (bs s) = true) := ⟨hp, by simp [empB, hse], EU.out.symm⟩
  have hpe : (qs.map (fun q => q.1)).length = qs.length := by simp
  have CL := (show Hid (∀ W, Below w.heap.size w W → Calls Tryz.prog 118 #[.pointer (some ⟨a, 0, none⟩), .int .i64 (pn : Int)] W fun e w' => ∃ r : Option Addr, e = .returned (.pointer r) ∧ ((∃ k, LastT (qs.map (fun q => q.1)) pn k ∧ r = some ⟨g, k * 6, none⟩) ∨ (r = none ∧ ¬ ∃ k, LastT (qs.map (fun q => q.1)) pn k)) ∧ Below W.heap.size W w') from fun W b => ilastText_any ((b.block a (lt_of_block HA.out)).trans HA.out) (HO.out.below b) (by omega) hpn (by have := HKL.out _ (List.getElem_mem hpn); omega) (HKI.out _ (List.getElem_mem hpn)))
  clear NO hpe
  go_enter Tryz.func70, Tryz.ntmps70
  go_wp2_with fail
  go_at_call 74
  refine Calls.mono CH.out ?_
  rintro e w' ⟨rfl, rfl⟩
  clear CH
  go_wp2_with fail
  go_at_call 112
  refine Calls.mono (CT.out _) ?_
  rintro e w2 ⟨rfl, b2⟩
  clear CT
  have B2 := (show Hid (Below w'.heap.size w' w2) from b2)
  clear b2
  go_wp2_with fail
  go_at_call 118
  refine Calls.mono (CL.out _ B2.out) ?_
  rintro e w3 ⟨r, rfl, hr, b3⟩
  clear CL
  have B3 := (show Hid (Below w'.heap.size w' w3) from B2.out.trans (b3.mono B2.out.size))
  have HA3 := (show Hid _ from (B3.out.block a (lt_of_block HA.out)).trans HA.out)
  have HO3 := (show Hid (OwnQ B w3 (.slice (some ⟨g, 0, none⟩) qs.length cap) qs) from HO.out.below B3.out)
  clear b3 B2 cA
  have hag : a ≠ g := fun e => by
    obtain ⟨cur, hcur⟩ := HO3.out.rowCells
    rw [← e, HA3.out] at hcur; cases hcur
  rcases hr with ⟨k, hk, rfl⟩ | ⟨rfl, hno⟩
  · obtain ⟨hkl, hk4⟩ := hk.choose_spec.2
    have hkq : k < qs.length := by simpa using hkl
    have HM : Hid (ms = moreN (qs.map (fun q => q.1)) k s) := by
      rcases HMS.out with ⟨j, hj, e⟩ | ⟨h, _⟩
      · rw [hk.one hj]; exact e
      · exact absurd ⟨k, hk⟩ h
    have ct := HO3.out.cellAt hkq (j := 3) (by omega)
    simp only [nodeRow, List.getD_cons_succ, List.getD_cons_zero] at ct
    have zt := HO3.out.frozenAt (k * 6 + 3)
    have htk := HTX.out _ (List.getElem_mem hkq)
    have O4 := (show Hid _ from HO3.out.text hkq (qs[k].1.text ++ s))
    have MM := (show Hid _ from more_map hkq s)
    clear hk hkl hk4 HMS HKL HKI HAP
    have F4 := (show Hid (OpFr B a w' (w3.setCell ⟨g, k * 6 + 3, none⟩ (.string (qs[k].1.text ++ s)))) from (OpFr.of_below B3.out).trans (OpFr.of_turn (TurnQ.of_row (grown_setCell w3 g (k * 6 + 3) (.string (qs[k].1.text ++ s)))) HO3.out))
    have A4 := (show Hid _ from (Below.heap_setCell w3 ⟨g, k * 6 + 3, none⟩ (.string (qs[k].1.text ++ s)) a hag).trans HA3.out)
    go_wp2
    go_ret
    exact ⟨true, rfl, ⟨fun _ => YES.out, fun _ => rfl⟩, ⟨g, _, _, A4.out, fun _ => ⟨_, MM.out.trans HM.out.symm, O4.out⟩⟩, F4.out⟩
  · have HM : Hid (ms = newN (qs.map (fun q => q.1)) pn s) := by
      rcases HMS.out with ⟨j, hj, _⟩ | ⟨_, e⟩
      · exact absurd ⟨j, hj⟩ hno
      · exact e
    have hB3 : B ≤ w3.heap.size := Nat.le_trans hB B3.out.size
    clear hno HMS
    go_wp2_with fail
    go_at_call 79
    refine Calls.mono (iadd_all HA3.out HO3.out hB3 (by omega) 4 0 ⟨#[]⟩ s (rs := []) ?_ (by simp)) ?_
    · exact sv_nil0 _
    rintro e w4 ⟨rfl, ⟨v4, ha4, av4, ho4⟩, fr4⟩
    obtain ⟨g4, c4, rfl, _, _⟩ := ho4.form (by simp)
    have hl4 : (qs ++ [((⟨4, ⟨#[]⟩, [], s, -1, []⟩ : PNode), (av4, Value.slice none 0 0))]).length = qs.length + 1 := by simp
    have hap4 : Apart (qs ++ [((⟨4, ⟨#[]⟩, [], s, -1, []⟩ : PNode), (av4, Value.slice none 0 0))]) := apart_snoc HAP.out (fun g e => by cases e)
    have F4 := (show Hid (OpFr B a w' w4) from (OpFr.of_below B3.out).trans (OpFr.of_add fr4))
    have hB4 : B ≤ w4.heap.size := Nat.le_trans hB3 fr4.size
    have CG := (show Hid _ from ihang_any (c := qs.length) (p := pn) ha4 ho4 hap4 hB4 (by rw [hl4]; omega) (by rw [hl4]; omega) (by omega) (.inl (by simp)) (fun q hq => by
      rcases List.mem_append.mp hq with h | h
      · have := HKL.out q h; omega
      · simp at h; subst h; simp) (by rw [hl4]; omega))
    have OP := (show Hid _ from fun w5 (t : TurnQ g4 _ w4 w5) => OpFr.of_turn (a := a) t ho4)
    have hag4 : a ≠ g4 := fun e => by
      obtain ⟨cur, hcur⟩ := ho4.rowCells
      rw [← e, ha4] at hcur; cases hcur
    have HA4 := (show Hid _ from ha4)
    have HO4 := (show Hid _ from ho4)
    clear ha4 ho4 fr4 hap4
    go_wp2_with fail
    go_at_call 50
    refine Calls.mono CG.out ?_
    rintro e w5 ⟨rfl, ⟨qs5, hq5, ho5, _⟩, t5⟩
    have F5 := (show Hid (OpFr B a w' w5) from F4.out.trans (OP.out w5 t5))
    have A5 := (show Hid _ from (t5.block a (lt_of_block HA4.out) hag4 (fun q hq e => by
      rcases (HO4.out.2 q hq).2.2 with ⟨e1, _⟩ | ⟨g', cap', cur, e1, _, hh, _⟩
      · rw [e1] at e; cases e
      · rw [e1] at e
        simp only [Value.ownBlock, Option.some.injEq] at e
        subst e
        rw [HA4.out] at hh; cases hh)).trans HA4.out)
    have HQ5 : Hid (qs5.map (fun q => q.1) = ms) := by
      rw [HM.out, hq5, newN, List.length_map, List.map_append]
      rfl
    have O5 := (show Hid _ from ho5)
    clear hq5 ho5 t5 CG OP
    go_wp2
    go_ret
    exact ⟨true, rfl, ⟨fun _ => YES.out, fun _ => rfl⟩, ⟨g4, _, _, A5.out, fun _ => ⟨_, HQ5.out, O5.out⟩⟩, F5.out⟩
end Go.Proofs.YtogdbjafibejdaaGreat

/- The program's TreeWrite of a right tree (written by mk/iwrite3.py). No condition. -/
namespace Go.Proofs.YtogdbjafibejdaaGreat
open Go.RowKit
set_option maxRecDepth 100000
set_option linter.unusedVariables false

set_option maxHeartbeats 800000 in
set_option maxRecDepth 100000 in
theorem istepWrite {B a g cap A C D : Nat} {w : World} {qs : List (PNode × (Value × Value))} {ms : List PNode} (ha : w.heap[a]? = some (.cells #[.slice (some ⟨g, 0, none⟩) qs.length cap] 77 (0, 0))) (hO : OwnQ B w (.slice (some ⟨g, 0, none⟩) qs.length cap) qs) (hA : Apart qs) (hB : B ≤ w.heap.size) (h0 : 0 < qs.length) (hlen : qs.length ≤ 500)
    (hkl : ∀ q ∈ qs, q.1.kids.length ≤ 1000000) (hkin : ∀ q ∈ qs, ∀ x ∈ q.1.kids, 0 ≤ x ∧ x < qs.length) (htx : ∀ q ∈ qs, q.1.text.size ≤ 1048576) (p : Int) (s : ByteArray) (hs : s.size ≤ 1048576)
    (hms : (∃ k, LastT (qs.map (fun q => q.1)) p.toNat k ∧ ms = moreN (qs.map (fun q => q.1)) k s) ∨ ((¬ ∃ k, LastT (qs.map (fun q => q.1)) p.toNat k) ∧ ms = newN (qs.map (fun q => q.1)) p.toNat s))
    (gA : w.heap[A]? = some (.cells #[.pointer (some ⟨a, 0, none⟩)] 64 (0, 0))) (gC : w.heap[C]? = some (.cells #[.int .i64 p] 3 (0, 0))) (gD : w.heap[D]? = some (.cells #[.string s] 9 (0, 0))) :
    Calls Tryz.prog 69 #[.pointer (some ⟨A, 0, none⟩), .pointer (some ⟨C, 0, none⟩), .pointer (some ⟨D, 0, none⟩)] w fun e w' => ∃ r : Bool, e = .returned (.bool r) ∧ (r = true ↔ (0 ≤ p ∧ p < qs.length) ∧ empB s = false ∧ utfOk (bs s) = true) ∧ (∃ g' n' c', w'.heap[a]? = some (.cells #[.slice (some ⟨g', 0, none⟩) n' c'] 77 (0, 0)) ∧ (r = true → ∃ qs', qs'.map (fun q => q.1) = ms ∧ OwnQ B w' (.slice (some ⟨g', 0, none⟩) n' c') qs')) ∧ OpFr B a w w' := by
  have CC := (show Hid _ from iwrite_any ha hO hA hB h0 hlen hkl hkin htx p s hs hms)
  obtain ⟨cA, _⟩ := one_cell gA
  obtain ⟨cC, _⟩ := one_cell gC
  obtain ⟨cD, _⟩ := one_cell gD
  clear ha hO hA hkl hkin htx hms gA gC gD
  go_enter Tryz.func69, Tryz.ntmps69
  go_wp2_with fail
  go_at_call 70
  refine Calls.mono CC.out ?_
  rintro e w' ⟨r, rfl, hh⟩
  have HH := (show Hid _ from hh)
  clear CC hh
  go_wp2
  go_ret
  exact ⟨r, rfl, HH.out⟩

theorem TreeWrite_res {tmps : Array Value} {w : World} {g : Nat} {a : Option Addr} {n c : Nat} {i : Bool} (h4 : tmps.getD 6 undef = .pointer (some ⟨g, 0, none⟩)) (h5 : tmps.getD 7 undef = .bool i) (hb : w.heap[g]? = some (.cells #[.slice a n c] 26 (0, 0))) :
    (results Tryz.f19 tmps).run Tryz.prog w = .ok (.tuple #[.agg #[.slice a n c], .bool i]) w := by
  rw [results_cell_tmp (p := 6) (u := 7) (ty := 26) rfl, h4, h5]
  simp [asAddr, run_loadVar_row w g 26 26 #[.slice a n c] (0, 0) _ hb Tryz.underlying26 rfl rfl, Result.andThen]

set_option maxHeartbeats 2000000 in
set_option maxRecDepth 100000 in
theorem itreeWrite_any {w : World} {v : Value} {ns ms : List PNode} (hn : NodesAt w v ns) (hfit : ∀ n ∈ ns, NodeFit n) (hlen : ns.length ≤ 1048576) (p : Int) (s : ByteArray) (hs : s.size ≤ 1048576) (ok : TreeOkP ns)
    (hms : (∃ k, LastT ns p.toNat k ∧ ms = moreN ns k s) ∨ ((¬ ∃ k, LastT ns p.toNat k) ∧ ms = newN ns p.toNat s)) (hfm : ∀ n ∈ ms, NodeFit n) (hml : ms.length ≤ 1048576) :
    Calls Tryz.prog 19 #[.agg #[v], .int .i64 p, .string s] w fun e w' => ∃ (va : Option Addr) (n vc : Nat) (r : Bool), e = .returned (.tuple #[.agg #[.slice va n vc], .bool r]) ∧ (r = true ↔ ((0 ≤ p ∧ p < ns.length) ∧ empB s = false ∧ utfOk (bs s) = true) ∧ TreeOkP ms) ∧ (r = true → NodesAt w' (.slice va n vc) ms) ∧ (r = false → n = ns.length) ∧ Below w.heap.size w w' := by
  have hmf : ∀ (fn : Fn) (first cap : Array Value) (w : World), (Instr.makeFunc fn first cap).run Tryz.prog w = .ok (.func fn first cap) w := fun _ _ _ _ => rfl
  have HN := (show Hid (NodesAt w v ns) from hn)
  have HFIT := (show Hid (∀ n ∈ ns, NodeFit n) from hfit)
  have HOK := (show Hid (TreeOkP ns) from ok)
  have h1 := ok.one
  have h5 := ok.most
  obtain ⟨a, cap, rfl, hc1, hc2, _⟩ := hn.slice
  have HMS := (show Hid _ from hms)
  have HFM := (show Hid (∀ n ∈ ms, NodeFit n) from hfm)
  clear hn hfit ok hms hfm
  obtain ⟨w1, hw1⟩ : ∃ x, x = (((w.alloc (.cells #[.slice a ns.length cap] 26)).alloc (.cells #[.int .i64 p] 3)).alloc (.cells #[.string s] 9)).alloc (.cells #[.slice none 0 0] 26) := ⟨_, rfl⟩
  have b1 : Below w.heap.size w w1 := by rw [hw1]; exact ((((Below.refl _ w).alloc (Nat.le_refl _) _).alloc (by simp only [World.size_alloc]; omega) _).alloc (by simp only [World.size_alloc]; omega) _).alloc (by simp only [World.size_alloc]; omega) _
  have hs1 : w1.heap.size = w.heap.size + 1 + 1 + 1 + 1 := by rw [hw1]; simp only [World.size_alloc]
  have g0 : w1.heap[w.heap.size]? = some (.cells #[.slice a ns.length cap] 26 (0, 0)) := by
    rw [hw1, Below.heap_alloc _ _ _ (by simp only [World.size_alloc]; omega), Below.heap_alloc _ _ _ (by simp only [World.size_alloc]; omega), Below.heap_alloc _ _ _ (by simp only [World.size_alloc]; omega)]
    have := World.alloc_heap_new (w) (.cells #[.slice a ns.length cap] 26)
    exact this
  have g1 : w1.heap[w.heap.size + 1]? = some (.cells #[.int .i64 p] 3 (0, 0)) := by
    rw [hw1, Below.heap_alloc _ _ _ (by simp only [World.size_alloc]; omega), Below.heap_alloc _ _ _ (by simp only [World.size_alloc]; omega)]
    have := World.alloc_heap_new (w.alloc (.cells #[.slice a ns.length cap] 26)) (.cells #[.int .i64 p] 3)
    rwa [World.size_alloc] at this
  have g2 : w1.heap[w.heap.size + 1 + 1]? = some (.cells #[.string s] 9 (0, 0)) := by
    rw [hw1, Below.heap_alloc _ _ _ (by simp only [World.size_alloc]; omega)]
    have := World.alloc_heap_new ((w.alloc (.cells #[.slice a ns.length cap] 26)).alloc (.cells #[.int .i64 p] 3)) (.cells #[.string s] 9)
    rwa [World.size_alloc, World.size_alloc] at this
  have g3 : w1.heap[w.heap.size + 1 + 1 + 1]? = some (.cells #[.slice none 0 0] 26 (0, 0)) := by
    rw [hw1]
    have := World.alloc_heap_new (((w.alloc (.cells #[.slice a ns.length cap] 26)).alloc (.cells #[.int .i64 p] 3)).alloc (.cells #[.string s] 9)) (.cells #[.slice none 0 0] 26)
    rwa [World.size_alloc, World.size_alloc, World.size_alloc] at this
  have HG := (show Hid (w1.heap[w.heap.size]? = some (.cells #[.slice a ns.length cap] 26 (0, 0)) ∧ w1.heap[w.heap.size + 1]? = some (.cells #[.int .i64 p] 3 (0, 0)) ∧ w1.heap[w.heap.size + 1 + 1]? = some (.cells #[.string s] 9 (0, 0)) ∧ w1.heap[w.heap.size + 1 + 1 + 1]? = some (.cells #[.slice none 0 0] 26 (0, 0))) from ⟨g0, g1, g2, g3⟩)
  have HS1 := (show Hid _ from hs1)
  have B1 := (show Hid (Below w.heap.size w w1) from b1)
  clear g0 g1 g2 g3 hs1 b1
  go_enter Tryz.func19, Tryz.ntmps19
  go_wp2_with fail
  go_at_call 47
  rw [← hw1]
  refine Calls.mono (iarenaA_any (HN.out.below B1.out) HFIT.out hlen) ?_
  rintro e w2 ⟨g, v2, rfl, ha2, hq2, _, hg, b2⟩
  clear hw1
  obtain ⟨qs, hq1, o2, a2⟩ := hq2 HOK.out
  have hql : qs.length = ns.length := by have := congrArg List.length hq1; simpa using this
  obtain ⟨gv, cv, rfl, hgv, hgvl⟩ := o2.form (by omega)
  obtain ⟨w4, hw4⟩ : ∃ x, x = w2.alloc (.cells #[.pointer (some ⟨g, 0, none⟩)] 64) := ⟨_, rfl⟩
  have b24 : Below w2.heap.size w2 w4 := by rw [hw4]; exact (Below.refl _ w2).alloc (Nat.le_refl _) _
  have hs4 : w4.heap.size = w2.heap.size + 1 := by rw [hw4, World.size_alloc]
  have gA : w4.heap[w2.heap.size]? = some (.cells #[.pointer (some ⟨g, 0, none⟩)] 64 (0, 0)) := by rw [hw4]; exact World.alloc_heap_new _ _
  have hgl := lt_of_block ha2
  have hs1 := HS1.out
  have b12 := b2.size
  have b14 : Below w1.heap.size w1 w4 := b2.trans (b24.mono b2.size)
  have bw4 : Below w.heap.size w w4 := B1.out.trans (b14.mono B1.out.size)
  have ha4 := (b24.block g hgl).trans ha2
  have o4 := o2.below b24
  have hkl : ∀ q ∈ qs, q.1.kids.length ≤ 1000000 := fun q hq => by have := kids_few HOK.out q.1 (by rw [← hq1]; exact List.mem_map.mpr ⟨q, hq, rfl⟩); omega
  have hkin : ∀ q ∈ qs, ∀ x ∈ q.1.kids, 0 ≤ x ∧ x < qs.length := fun q hq x hx => by
    obtain ⟨i, hi, rfl⟩ := List.getElem_of_mem hq
    have hi' : i < ns.length := by omega
    have e : kidsOf ns i = qs[i].1.kids := by
      have h' : i < (qs.map (fun q => q.1)).length := by simpa using hi
      rw [← hq1, kidsOf_at h']; simp
    have := fit_kid HOK.out.fit (p := i) (x := x) (by rw [e]; exact hx)
    rw [hql]; exact ⟨this.2.1, this.2.2.1⟩
  have htx : ∀ q ∈ qs, q.1.text.size ≤ 1048576 := fun q hq => (HFIT.out q.1 (by rw [← hq1]; exact List.mem_map.mpr ⟨q, hq, rfl⟩)).tx
  have hgs := HG.out
  have CC := (show Hid _ from ichangeWrite (B := w1.heap.size) (a := g) (g := gv) (cap := cv) (w := w4) (qs := qs) (ms := ms) (C := (0 ≤ p ∧ p < ns.length) ∧ empB s = false ∧ utfOk (bs s) = true) (x0 := w2.heap.size) (x1 := w.heap.size + 1) (x2 := w.heap.size + 1 + 1) ha4 o4 b14.size (by omega) (by omega) (by rw [hq1]; exact HFIT.out) HFM.out hml
    (fun W b => by
      have h := istepWrite (B := w1.heap.size) ((b.block g (lt_of_block ha4)).trans ha4) (o4.below b) a2 (Nat.le_trans b14.size b.size) (by omega) (by omega) hkl hkin htx p s hs (by rw [hq1]; exact HMS.out) ((b.block _ (lt_of_block gA)).trans gA) ((b.block _ (lt_of_block ((b14.block _ (by omega)).trans hgs.2.1))).trans ((b14.block _ (by omega)).trans hgs.2.1)) ((b.block _ (lt_of_block ((b14.block _ (by omega)).trans hgs.2.2.1))).trans ((b14.block _ (by omega)).trans hgs.2.2.1))
      rw [hql] at h
      exact h))
  have BW4 := (show Hid (Below w.heap.size w w4) from bw4)
  have GA := (show Hid _ from gA)
  have GR4 := (show Hid _ from (b14.block (w.heap.size + 1 + 1 + 1) (by omega)).trans hgs.2.2.2)
  obtain ⟨cA4, _⟩ := one_cell gA
  have HSS := (show Hid (w1.heap.size = w.heap.size + 1 + 1 + 1 + 1 ∧ w1.heap.size ≤ w2.heap.size ∧ w4.heap.size = w2.heap.size + 1 ∧ g < w2.heap.size ∧ w1.heap.size ≤ g) from ⟨hs1, b12, hs4, hgl, hg⟩)
  have HQL := (show Hid (qs.length = ns.length) from hql)
  clear gA b24 b14 bw4 hq1 hq2 o2 o4 ha2 ha4 b2 HG HS1 B1 hs4 hs1 b12 hgl hg hkin htx hkl hgs a2
  go_wp2_with fail
  go_at_call 48
  rw [← hw4]
  refine Calls.mono CC.out ?_
  rintro e w5 ⟨r, rfl, hr, ⟨g5, n5, c5, ha5, ho5, hn5⟩, fr5⟩
  clear CC hw4
  have hss := HSS.out
  have gA5 := fr5.box GA.out (by decide) (by decide) (by omega)
  have gR5 := fr5.box GR4.out (by decide) (by decide) (by omega)
  have b45 : Below w.heap.size w4 w5 := fr5.below (by omega) (by omega) (by omega)
  have b5 : Below w.heap.size w w5 := BW4.out.trans b45
  obtain ⟨cA5, _⟩ := one_cell gA5
  rw [HQL.out] at hn5
  have HN5 := (show Hid (r = false → n5 = ns.length) from hn5)
  clear hn5
  have HR := (show Hid _ from hr)
  have HO5 := (show Hid (r = true → OwnN w1.heap.size w5 (.slice (some ⟨g5, 0, none⟩) n5 c5) ms) from ho5)
  have GR5 := (show Hid _ from gR5)
  have B5 := (show Hid (Below w.heap.size w w5) from b5)
  have HA5 := (show Hid _ from ha5)
  have hRl := lt_of_block gR5
  have hAl := lt_of_block gA5
  clear hr ho5 gR5 b5 b45 ha5 gA5 fr5 cA4 GA GR4 BW4 hss
  go_wp2_with fail
  go_at_call 51
  refine Calls.mono (itree_any HA5.out) ?_
  rintro e w6 ⟨rfl, b6⟩
  have gR6 := (b6.block _ hRl).trans GR5.out
  obtain ⟨cR6, zR6⟩ := one_cell gR6
  have GR6 := (show Hid _ from gR6)
  have B6 := (show Hid (Below w.heap.size w w6) from B5.out.trans (b6.mono B5.out.size))
  have HO6 := (show Hid (r = true → OwnN w1.heap.size w6 (.slice (some ⟨g5, 0, none⟩) n5 c5) ms) from fun h => (HO5.out h).below b6)
  clear gR6 b6
  go_wp2
  refine bodyPost_ret (TreeWrite_res rfl rfl (setCell_at GR6.out)) rfl ?_
  refine ⟨_, _, _, _, rfl, HR.out, (fun h => ?_), HN5.out, B6.out.setCell (p := ⟨w.heap.size + 1 + 1 + 1, 0, none⟩) (by simp; omega) _⟩
  exact ((HO6.out h).kept (grown_setCell w6 (w.heap.size + 1 + 1 + 1) 0 (.slice (some ⟨g5, 0, none⟩) n5 c5)) (fun r e => by cases e; exact ⟨_, _, _, GR6.out, by decide, by decide, by decide⟩)).nodes
end Go.Proofs.YtogdbjafibejdaaGreat

/- The law FnPrinted, walked (written by mk/wprinted.py). No condition. -/
namespace Go.Proofs.YtogdbjafibejdaaGreat
open Go.RowKit
set_option maxRecDepth 100000
set_option linter.unusedVariables false

theorem cmtX_good : nodeB 5 ⟨#[]⟩ [] ⟨#[120]⟩ 0 = true := by kernel_rfl
theorem cmtX_fit : NodeFit ⟨5, ⟨#[]⟩, [], ⟨#[120]⟩, -1, []⟩ := ⟨by decide, by decide, by simp, fun p hp => by simp at hp, by simp⟩
theorem txtX_good {s : ByteArray} (hs : empB s = false) (hu : utfOk (bs s) = true) : nodeB (txtN s).kind (txtN s).name (txtN s).attrs (txtN s).text (txtN s).kids.length = true := by
  have h0 : empB ⟨#[]⟩ = true := (empB_iff ⟨#[]⟩).mpr rfl
  simp [nodeB, txtN, hs, hu, h0]
/-- A comment hung behind all. -/
theorem printed_cmt {ns : List PNode} (h : STreeOkP ns) (hl : ns.length < 500) : STreeOkP (ns ++ [⟨5, ⟨#[]⟩, [], ⟨#[120]⟩, -1, []⟩]) ∧ TreeOkP (hangN (ns ++ [⟨5, ⟨#[]⟩, [], ⟨#[120]⟩, -1, []⟩]) ns.length 0) ∧
    printL (hangN (ns ++ [⟨5, ⟨#[]⟩, [], ⟨#[120]⟩, -1, []⟩]) ns.length 0) (ns.length + 1) 0 = printL ns ns.length 0 ++ [60, 33, 45, 45, 120, 45, 45, 62] := by
  have h1 := h.1.one
  have ht : STreeOkP (ns ++ [⟨5, ⟨#[]⟩, [], ⟨#[120]⟩, -1, []⟩]) := ⟨tree_snoc h.1 rfl rfl (by decide) cmtX_good hl, by rw [parOf_snoc rfl]; exact h.2⟩
  have hkd : kidsOf (ns ++ [(⟨5, ⟨#[]⟩, [], ⟨#[120]⟩, -1, []⟩ : PNode)]) ns.length = [] := by rw [kidsOf_snoc rfl, kidsOf_out (by omega)]
  have hop : opensB (ns ++ [(⟨5, ⟨#[]⟩, [], ⟨#[120]⟩, -1, []⟩ : PNode)])[0] = true := by
    have hg := h.1.good 0 (by omega)
    unfold goodB at hg
    rw [Bool.and_eq_true] at hg
    have hk : ns[0].kind = 1 := by simpa using hg.1
    rw [List.getElem_append_left (by omega)]
    unfold opensB
    rw [hk]
    rfl
  refine ⟨ht, (hang_ok ht (by simp) (by simp) (by omega) hop (fun d hd => by have := bel_leaf hkd d 0 hd; omega)).1, ?_⟩
  rw [print_hang0 h rfl rfl ht]
  rfl
/-- A text written below the page. -/
theorem printed_text {ns ms : List PNode} (h : STreeOkP ns) {s : ByteArray} (hse : empB s = false) (hu : utfOk (bs s) = true) (hh : s.data.toList.head? ≠ some 160) (ht : TreeOkP ms)
    (hms : (∃ k, LastT ns 0 k ∧ ms = moreN ns k s) ∨ ((¬ ∃ k, LastT ns 0 k) ∧ ms = newN ns 0 s)) : printL ms ms.length 0 = printL ns ns.length 0 ++ esc false s.data.toList := by
  have h1 := h.1.one
  rcases hms with ⟨k, hl, rfl⟩ | ⟨_, rfl⟩
  · rw [moreN_len]
    exact print_more0 h hl s hh
  · have h5 := ((new_ok h (p := 0) (by omega) hse hu).mp ht).1
    have e : (newN ns 0 s).length = ns.length + 1 := by simp [newN, hangN_len]
    have hst : STreeOkP (ns ++ [txtN s]) := ⟨tree_snoc h.1 rfl rfl (by show (4 : Int) ≠ 1; decide) (txtX_good hse hu) h5, by rw [parOf_snoc rfl]; exact h.2⟩
    rw [e, newN, print_hang0 h rfl rfl hst]
    have hpn := page_name h.1
    simp [nodeL, txtN, hpn]

set_option maxRecDepth 100000 in
theorem fnPrinted_big {v : Value} {xs : List Int} (w : World) (h : Sl .u8 w v xs) (hl : 1048576 < xs.length) :
    Calls Tryz.prog 7 #[v] w fun e w' => e = .returned (.bool true) ∧ Below w.heap.size w w' := by
  have hbig := big_any h
  rw [decide_eq_true hl] at hbig
  clear h
  go_enter Tryz.func7, Tryz.ntmps7
  go_wp2_with fail
  go_at_call 10
  refine hbig.mono ?_
  rintro e w1 ⟨rfl, rfl⟩
  go_wp2
  go_ret
  exact ⟨rfl, Below.refl _ _⟩

set_option maxHeartbeats 4000000 in
set_option maxRecDepth 100000 in
theorem fnPrinted_of {v : Value} {xs : List Int} (w : World) (h : Sl .u8 w v xs) (hl : ¬ 1048576 < xs.length)
    (hD : Calls Tryz.prog 34 #[v] w fun e w' => ∃ nv ns, e = .returned (.agg #[nv]) ∧ OwnN w.heap.size w' nv ns ∧ OutT ns ∧ Below w.heap.size w w') :
    Calls Tryz.prog 7 #[v] w fun e w' => e = .returned (.bool true) ∧ Below w.heap.size w w' := by
  have hbig := big_any h
  rw [decide_eq_false hl] at hbig
  have HD := (show Hid _ from hD)
  have HBG := (show Hid _ from hbig)
  clear h hl hbig hD
  go_enter Tryz.func7, Tryz.ntmps7
  go_wp2_with fail
  go_at_call 10
  refine Calls.mono HBG.out ?_
  rintro e w0 ⟨rfl, rfl⟩
  clear HBG
  go_wp2_with fail
  go_at_call 34
  refine Calls.mono HD.out ?_
  rintro e w1 ⟨nv, ns, rfl, own1, hout, b1⟩
  clear HD
  obtain ⟨na, ncap, rfl, hc1, hc2, j1⟩ := own1.nodes.slice
  clear j1
  have hlen := hout.len
  have HFT := (show Hid (∀ n ∈ ns, NodeFit n) from hout.fit)
  have HPR := (show Hid (TreeOkP ns → parOf ns 0 = -1) from hout.par)
  have NT1 := (show Hid (NodesAt w1 (.slice na ns.length ncap) ns) from own1.nodes)
  have B1 := (show Hid (Below w0.heap.size w0 w1) from b1)
  clear own1 hout b1
  obtain ⟨w2, hw2⟩ : ∃ x, x = w1.alloc (.cells #[.slice na ns.length ncap] 26) := ⟨_, rfl⟩
  have b2 : Below w1.heap.size w1 w2 := by rw [hw2]; exact (Below.refl _ _).alloc (Nat.le_refl _) _
  have gn2 : w2.heap[w1.heap.size]? = some (.cells #[.slice na ns.length ncap] 26 (0, 0)) := by rw [hw2]; exact World.alloc_heap_new _ _
  obtain ⟨T, hT⟩ : ∃ x, x = w1.heap.size := ⟨_, rfl⟩
  rw [← hT] at gn2
  have cT2 := (six_one gn2).1
  have GT2 := (show Hid (w2.heap[T]? = some (.cells #[.slice na ns.length ncap] 26 (0, 0))) from gn2)
  clear gn2
  have NT2 := (show Hid (NodesAt w2 (.slice na ns.length ncap) ns) from NT1.out.below b2)
  have B2 := (show Hid (Below w0.heap.size w0 w2) from B1.out.trans (b2.mono B1.out.size))
  clear NT1 b2 B1
  go_upto_region 4 with fail
  rw [← hw2, ← hT]
  clear hw2 hT
  go_wp2_with fail
  go_at_call 26
  refine Calls.mono (iprint_any NT2.out HFT.out (by omega)) ?_
  rintro e w3 ⟨s, rfl, hs1, hs2, b3⟩
  have HS1 := (show Hid (TreeOkP ns → s = strL (printL ns ns.length 0)) from hs1)
  have HS2 := (show Hid (¬ TreeOkP ns → s = ⟨#[]⟩) from hs2)
  clear hs1 hs2
  have gT3 := (b3.block _ (blk_lt GT2.out)).trans GT2.out
  have cT3 := (six_one gT3).1
  have GT3 := (show Hid (w3.heap[T]? = some (.cells #[.slice na ns.length ncap] 26 (0, 0))) from gT3)
  have NT3 := (show Hid (NodesAt w3 (.slice na ns.length ncap) ns) from NT2.out.below b3)
  have B3 := (show Hid (Below w0.heap.size w0 w3) from B2.out.trans (b3.mono B2.out.size))
  clear gT3 GT2 cT2 NT2 b3 B2
  go_wp2_with fail
  go_at_call 27
  refine Calls.mono (sprintOf_any NT3.out HFT.out (by omega)) ?_
  rintro e w4 ⟨s', rfl, hs1, hs2, b4⟩
  obtain rfl : s' = s := by
    by_cases hr : TreeOkP ns
    · rw [hs1 ⟨hr, HPR.out hr⟩, HS1.out hr]
    · rw [hs2 (fun h => hr h.1), HS2.out hr]
  clear hs1 hs2
  have gT4 := (b4.block _ (blk_lt GT3.out)).trans GT3.out
  have cT4 := (six_one gT4).1
  have GT4 := (show Hid (w4.heap[T]? = some (.cells #[.slice na ns.length ncap] 26 (0, 0))) from gT4)
  have NT4 := (show Hid (NodesAt w4 (.slice na ns.length ncap) ns) from NT3.out.below b4)
  have B4 := (show Hid (Below w0.heap.size w0 w4) from B3.out.trans (b4.mono B3.out.size))
  clear gT4 GT3 cT3 NT3 b4 B3
  go_wp2_with fail
  go_at_call 14
  refine Calls.mono (streeOk_any NT4.out HFT.out (by omega)) ?_
  rintro e w5 ⟨r, rfl, hr, b5⟩
  have HR := (show Hid (r = true ↔ STreeOkP ns) from hr)
  clear hr
  have gT5 := (b5.block _ (blk_lt GT4.out)).trans GT4.out
  have cT5 := (six_one gT5).1
  have GT5 := (show Hid (w5.heap[T]? = some (.cells #[.slice na ns.length ncap] 26 (0, 0))) from gT5)
  have NT5 := (show Hid (NodesAt w5 (.slice na ns.length ncap) ns) from NT4.out.below b5)
  have B5 := (show Hid (Below w0.heap.size w0 w5) from B4.out.trans (b5.mono B4.out.size))
  clear gT5 GT4 cT4 NT4 b5 B4
  cases r with
  | false =>
    obtain rfl := HS2.out (fun h => by have := HR.out.mpr ⟨h, HPR.out h⟩; cases this)
    go_wp2
    go_ret
    exact ⟨rfl, B5.out⟩
  | true =>
    have HOK := (show Hid (STreeOkP ns) from HR.out.mp rfl)
    have hse := HS1.out HOK.out.1
    have h1 := HOK.out.1.one
    have hps := print_small HOK.out.1 (k := 0) (by omega)
    have hss : s'.size ≤ 195000000 := by rw [hse, strL_size]; exact hps
    have HSE := (show Hid (s' = strL (printL ns ns.length 0)) from hse)
    clear HR HS1 HS2 hse hps
    by_cases h5 : ns.length = 500
    · have h5i : (ns.length : Int) = 500 := by omega
      go_wp2
      go_ret
      exact ⟨rfl, B5.out⟩
    have h5i : ¬ (ns.length : Int) = 500 := by omega
    have hl5 : ns.length < 500 := by omega
    have HPC := (show Hid _ from printed_cmt HOK.out hl5)
    go_wp2_with fail
    go_at_call 23
    refine Calls.mono (itreeAdd_s NT5.out HFT.out HOK.out.1 (nm := ⟨#[]⟩) (rs := []) (sv_nil0 _) (by simp) cmtX_fit) ?_
    rintro e w6 ⟨va7, vn7, vc7, r7, rfl, hh1, hh2, b6⟩
    obtain ⟨rfl, hn7⟩ := hh1 HPC.out.1.1
    clear hh1 hh2
    have hl7 : (ns ++ [(⟨5, ⟨#[]⟩, [], ⟨#[120]⟩, -1, []⟩ : PNode)]).length = ns.length + 1 := by simp
    obtain ⟨a7, c7, e7, hc7, hm7, j7⟩ := hn7.slice
    rw [hl7] at e7 hc7
    cases e7
    clear j7
    have NA0 := (show Hid (NodesAt w6 (.slice va7 (ns.length + 1) vc7) (ns ++ [⟨5, ⟨#[]⟩, [], ⟨#[120]⟩, -1, []⟩])) from hn7)
    have HL7 := (show Hid ((ns ++ [(⟨5, ⟨#[]⟩, [], ⟨#[120]⟩, -1, []⟩ : PNode)]).length = ns.length + 1) from hl7)
    clear hn7 hl7
    have gT6 := (b6.block _ (blk_lt GT5.out)).trans GT5.out
    have cT6 := (six_one gT6).1
    have GT6 := (show Hid (w6.heap[T]? = some (.cells #[.slice na ns.length ncap] 26 (0, 0))) from gT6)
    have NT6 := (show Hid (NodesAt w6 (.slice na ns.length ncap) ns) from NT5.out.below b6)
    have B6 := (show Hid (Below w0.heap.size w0 w6) from B5.out.trans (b6.mono B5.out.size))
    clear gT6 GT5 cT5 NT5 b6 B5
    have NA6 := NA0
    clear NA0
    have HFA : Hid (∀ n ∈ ns ++ [(⟨5, ⟨#[]⟩, [], ⟨#[120]⟩, -1, []⟩ : PNode)], NodeFit n) := fun n hn => by
      rcases List.mem_append.mp hn with hn | hn
      · exact HFT.out n hn
      · rw [List.mem_singleton] at hn; subst hn; exact cmtX_fit
    obtain ⟨w7, hw7⟩ : ∃ x, x = w6.alloc (.cells #[.slice va7 (ns.length + 1) vc7] 26) := ⟨_, rfl⟩
    have b7 : Below w6.heap.size w6 w7 := by rw [hw7]; exact (Below.refl _ _).alloc (Nat.le_refl _) _
    have gn7 : w7.heap[w6.heap.size]? = some (.cells #[.slice va7 (ns.length + 1) vc7] 26 (0, 0)) := by rw [hw7]; exact World.alloc_heap_new _ _
    obtain ⟨A, hA⟩ : ∃ x, x = w6.heap.size := ⟨_, rfl⟩
    rw [← hA] at gn7
    have cA7 := (six_one gn7).1
    have GA7 := (show Hid (w7.heap[A]? = some (.cells #[.slice va7 (ns.length + 1) vc7] 26 (0, 0))) from gn7)
    clear gn7
    have bA := b7
    have gT7 := (b7.block _ (blk_lt GT6.out)).trans GT6.out
    have cT7 := (six_one gT7).1
    have GT7 := (show Hid (w7.heap[T]? = some (.cells #[.slice na ns.length ncap] 26 (0, 0))) from gT7)
    have NT7 := (show Hid (NodesAt w7 (.slice na ns.length ncap) ns) from NT6.out.below b7)
    have NA7 := (show Hid (NodesAt w7 (.slice va7 (ns.length + 1) vc7) (ns ++ [⟨5, ⟨#[]⟩, [], ⟨#[120]⟩, -1, []⟩])) from NA6.out.below b7)
    have B7 := (show Hid (Below w0.heap.size w0 w7) from B6.out.trans (b7.mono B6.out.size))
    clear gT7 GT6 cT6 NT6 NA6 b7 B6
    go_upto_region 12 with fail
    rw [← hw7, ← hA]
    clear hw7 hA
    go_wp2_with fail
    go_at_call 12
    refine Calls.mono (itreeHang_any NA7.out HFA.out (by rw [HL7.out]; omega) (ns.length : Int) 0 HPC.out.1.1) ?_
    rintro e w8 ⟨hv, r, rfl, hr, hxn, b8⟩
    obtain rfl : r = true := hr.mpr ⟨⟨by omega, ⟨by omega, by rw [HL7.out]; omega⟩, ⟨by omega, by rw [HL7.out]; omega⟩⟩, by simpa using HPC.out.2.1⟩
    have hxn' : NodesAt w8 hv (hangN (ns ++ [⟨5, ⟨#[]⟩, [], ⟨#[120]⟩, -1, []⟩]) ns.length 0) := by simpa using hxn
    clear hr hxn
    have hml : (hangN (ns ++ [⟨5, ⟨#[]⟩, [], ⟨#[120]⟩, -1, []⟩]) ns.length 0).length = ns.length + 1 := by rw [hangN_len]; exact HL7.out
    obtain ⟨ha, hc, e8, hh1, hh2, _⟩ := hxn'.slice
    rw [hml] at e8 hh1
    subst e8
    have NH0 := (show Hid (NodesAt w8 (.slice ha (ns.length + 1) hc) (hangN (ns ++ [⟨5, ⟨#[]⟩, [], ⟨#[120]⟩, -1, []⟩]) ns.length 0)) from hxn')
    have HML := (show Hid ((hangN (ns ++ [⟨5, ⟨#[]⟩, [], ⟨#[120]⟩, -1, []⟩]) ns.length 0).length = ns.length + 1) from hml)
    clear hxn' hml
    have gT8 := (b8.block _ (blk_lt GT7.out)).trans GT7.out
    have cT8 := (six_one gT8).1
    have GT8 := (show Hid (w8.heap[T]? = some (.cells #[.slice na ns.length ncap] 26 (0, 0))) from gT8)
    have gA8 := (b8.block _ (blk_lt GA7.out)).trans GA7.out
    have cA8 := (six_one gA8).1
    have GA8 := (show Hid (w8.heap[A]? = some (.cells #[.slice va7 (ns.length + 1) vc7] 26 (0, 0))) from gA8)
    have NT8 := (show Hid (NodesAt w8 (.slice na ns.length ncap) ns) from NT7.out.below b8)
    have NA8 := (show Hid (NodesAt w8 (.slice va7 (ns.length + 1) vc7) (ns ++ [⟨5, ⟨#[]⟩, [], ⟨#[120]⟩, -1, []⟩])) from NA7.out.below b8)
    have B8 := (show Hid (Below w0.heap.size w0 w8) from B7.out.trans (b8.mono B7.out.size))
    clear gT8 GT7 cT7 gA8 GA7 cA7 NT7 NA7 b8 B7
    have NH8 := NH0
    clear NH0
    have HFH : Hid (∀ n ∈ (hangN (ns ++ [⟨5, ⟨#[]⟩, [], ⟨#[120]⟩, -1, []⟩]) ns.length 0), NodeFit n) := hangN_fit (fun n hn => ⟨HFA.out n hn, by have := kids_few HPC.out.1.1 n hn; have := HPC.out.1.1.most; omega⟩)
    obtain ⟨w9, hw9⟩ : ∃ x, x = w8.alloc (.cells #[.slice ha (ns.length + 1) hc] 26) := ⟨_, rfl⟩
    have b9 : Below w8.heap.size w8 w9 := by rw [hw9]; exact (Below.refl _ _).alloc (Nat.le_refl _) _
    have gn9 : w9.heap[w8.heap.size]? = some (.cells #[.slice ha (ns.length + 1) hc] 26 (0, 0)) := by rw [hw9]; exact World.alloc_heap_new _ _
    obtain ⟨H, hH⟩ : ∃ x, x = w8.heap.size := ⟨_, rfl⟩
    rw [← hH] at gn9
    have cH9 := (six_one gn9).1
    have GH9 := (show Hid (w9.heap[H]? = some (.cells #[.slice ha (ns.length + 1) hc] 26 (0, 0))) from gn9)
    clear gn9
    have gT9 := (b9.block _ (blk_lt GT8.out)).trans GT8.out
    have cT9 := (six_one gT9).1
    have GT9 := (show Hid (w9.heap[T]? = some (.cells #[.slice na ns.length ncap] 26 (0, 0))) from gT9)
    have gA9 := (b9.block _ (blk_lt GA8.out)).trans GA8.out
    have cA9 := (six_one gA9).1
    have GA9 := (show Hid (w9.heap[A]? = some (.cells #[.slice va7 (ns.length + 1) vc7] 26 (0, 0))) from gA9)
    have NT9 := (show Hid (NodesAt w9 (.slice na ns.length ncap) ns) from NT8.out.below b9)
    have NA9 := (show Hid (NodesAt w9 (.slice va7 (ns.length + 1) vc7) (ns ++ [⟨5, ⟨#[]⟩, [], ⟨#[120]⟩, -1, []⟩])) from NA8.out.below b9)
    have NH9 := (show Hid (NodesAt w9 (.slice ha (ns.length + 1) hc) (hangN (ns ++ [⟨5, ⟨#[]⟩, [], ⟨#[120]⟩, -1, []⟩]) ns.length 0)) from NH8.out.below b9)
    have B9 := (show Hid (Below w0.heap.size w0 w9) from B8.out.trans (b9.mono B8.out.size))
    clear gT9 GT8 cT8 gA9 GA8 cA8 NT8 NA8 NH8 b9 B8
    go_upto_region 13 with fail
    rw [← hw9, ← hH]
    clear hw9 hH
    obtain ⟨ms, hms⟩ := write_ms ns 0 ⟨#[60, 38, 122]⟩
    have HMS := (show Hid _ from hms)
    have hfm := fit_write HOK.out.1 HFT.out 0 ⟨#[60, 38, 122]⟩ (by decide) hms
    have HFX := (show Hid (∀ n ∈ ms, NodeFit n) from hfm.1)
    have hmz := hfm.2
    clear hms hfm
    go_wp2_with fail
    go_at_call 19
    refine Calls.mono (itreeWrite_any NT9.out HFT.out (by omega) 0 ⟨#[60, 38, 122]⟩ (by decide) HOK.out.1 HMS.out HFX.out (by omega)) ?_
    rintro e w10 ⟨xa, xn, xc, r, rfl, hr, hxn, hxl, b10⟩
    have HR := (show Hid _ from hr)
    have HXN := (show Hid (r = true → NodesAt w10 (.slice xa xn xc) ms) from hxn)
    clear hr hxn hxl
    have gT10 := (b10.block _ (blk_lt GT9.out)).trans GT9.out
    have cT10 := (six_one gT10).1
    have GT10 := (show Hid (w10.heap[T]? = some (.cells #[.slice na ns.length ncap] 26 (0, 0))) from gT10)
    have gA10 := (b10.block _ (blk_lt GA9.out)).trans GA9.out
    have cA10 := (six_one gA10).1
    have GA10 := (show Hid (w10.heap[A]? = some (.cells #[.slice va7 (ns.length + 1) vc7] 26 (0, 0))) from gA10)
    have gH10 := (b10.block _ (blk_lt GH9.out)).trans GH9.out
    have cH10 := (six_one gH10).1
    have GH10 := (show Hid (w10.heap[H]? = some (.cells #[.slice ha (ns.length + 1) hc] 26 (0, 0))) from gH10)
    have NT10 := (show Hid (NodesAt w10 (.slice na ns.length ncap) ns) from NT9.out.below b10)
    have NA10 := (show Hid (NodesAt w10 (.slice va7 (ns.length + 1) vc7) (ns ++ [⟨5, ⟨#[]⟩, [], ⟨#[120]⟩, -1, []⟩])) from NA9.out.below b10)
    have NH10 := (show Hid (NodesAt w10 (.slice ha (ns.length + 1) hc) (hangN (ns ++ [⟨5, ⟨#[]⟩, [], ⟨#[120]⟩, -1, []⟩]) ns.length 0)) from NH9.out.below b10)
    have B10 := (show Hid (Below w0.heap.size w0 w10) from B9.out.trans (b10.mono B9.out.size))
    clear gT10 GT9 cT9 gA10 GA9 cA9 gH10 GH9 cH9 NT9 NA9 NH9 b10 B9
    have hz1 : (⟨#[60, 33, 45, 45, 120, 45, 45, 62]⟩ : ByteArray).size = 8 := rfl
    have hz2 : (⟨#[38, 108, 116, 59, 38, 97, 109, 112, 59, 122]⟩ : ByteArray).size = 10 := rfl
    have ad1 : ∀ W, (Op.stringOp .add s' ⟨#[60, 33, 45, 45, 120, 45, 45, 62]⟩).run Tryz.prog W = .ok (.string (s' ++ ⟨#[60, 33, 45, 45, 120, 45, 45, 62]⟩)) W := fun W => run_string_add_sum W _ _ (by omega)
    have ad2 : ∀ W, (Op.stringOp .add s' ⟨#[38, 108, 116, 59, 38, 97, 109, 112, 59, 122]⟩).run Tryz.prog W = .ok (.string (s' ++ ⟨#[38, 108, 116, 59, 38, 97, 109, 112, 59, 122]⟩)) W := fun W => run_string_add_sum W _ _ (by omega)
    have HPH := (show Hid (strL (printL (hangN (ns ++ [⟨5, ⟨#[]⟩, [], ⟨#[120]⟩, -1, []⟩]) ns.length 0) (hangN (ns ++ [⟨5, ⟨#[]⟩, [], ⟨#[120]⟩, -1, []⟩]) ns.length 0).length 0) = s' ++ ⟨#[60, 33, 45, 45, 120, 45, 45, 62]⟩) from (by rw [HML.out, HPC.out.2.2, HSE.out, ← strL_app]; rfl : strL (printL (hangN (ns ++ [⟨5, ⟨#[]⟩, [], ⟨#[120]⟩, -1, []⟩]) ns.length 0) (hangN (ns ++ [⟨5, ⟨#[]⟩, [], ⟨#[120]⟩, -1, []⟩]) ns.length 0).length 0) = s' ++ ⟨#[60, 33, 45, 45, 120, 45, 45, 62]⟩))
    clear hz1 hz2
    cases r with
    | false =>
      obtain ⟨w11, hw11⟩ : ∃ x, x = w10.alloc (.cells #[.slice xa xn xc] 26) := ⟨_, rfl⟩
      have b11 : Below w10.heap.size w10 w11 := by rw [hw11]; exact (Below.refl _ _).alloc (Nat.le_refl _) _
      have gn11 : w11.heap[w10.heap.size]? = some (.cells #[.slice xa xn xc] 26 (0, 0)) := by rw [hw11]; exact World.alloc_heap_new _ _
      obtain ⟨X, hX⟩ : ∃ x, x = w10.heap.size := ⟨_, rfl⟩
      rw [← hX] at gn11
      have cX11 := (six_one gn11).1
      have GX11 := (show Hid (w11.heap[X]? = some (.cells #[.slice xa xn xc] 26 (0, 0))) from gn11)
      clear gn11
      have gT11 := (b11.block _ (blk_lt GT10.out)).trans GT10.out
      have cT11 := (six_one gT11).1
      have GT11 := (show Hid (w11.heap[T]? = some (.cells #[.slice na ns.length ncap] 26 (0, 0))) from gT11)
      have gA11 := (b11.block _ (blk_lt GA10.out)).trans GA10.out
      have cA11 := (six_one gA11).1
      have GA11 := (show Hid (w11.heap[A]? = some (.cells #[.slice va7 (ns.length + 1) vc7] 26 (0, 0))) from gA11)
      have gH11 := (b11.block _ (blk_lt GH10.out)).trans GH10.out
      have cH11 := (six_one gH11).1
      have GH11 := (show Hid (w11.heap[H]? = some (.cells #[.slice ha (ns.length + 1) hc] 26 (0, 0))) from gH11)
      have NT11 := (show Hid (NodesAt w11 (.slice na ns.length ncap) ns) from NT10.out.below b11)
      have NA11 := (show Hid (NodesAt w11 (.slice va7 (ns.length + 1) vc7) (ns ++ [⟨5, ⟨#[]⟩, [], ⟨#[120]⟩, -1, []⟩])) from NA10.out.below b11)
      have NH11 := (show Hid (NodesAt w11 (.slice ha (ns.length + 1) hc) (hangN (ns ++ [⟨5, ⟨#[]⟩, [], ⟨#[120]⟩, -1, []⟩]) ns.length 0)) from NH10.out.below b11)
      have B11 := (show Hid (Below w0.heap.size w0 w11) from B10.out.trans (b11.mono B10.out.size))
      clear gT11 GT10 cT10 gA11 GA10 cA10 gH11 GH10 cH10 NT10 NA10 NH10 b11 B10
      go_upto_region 14 with fail
      rw [← hw11, ← hX]
      clear hw11 hX
      go_wp2_with fail
      go_at_call 26
      refine Calls.mono (iprint_any NH11.out HFH.out (by rw [HML.out]; omega)) ?_
      rintro e w12 ⟨s8, rfl, hs1, hs2, b12⟩
      obtain rfl : s8 = s' ++ ⟨#[60, 33, 45, 45, 120, 45, 45, 62]⟩ := by rw [hs1 HPC.out.2.1, HPH.out]
      clear hs1 hs2
      have gT12 := (b12.block _ (blk_lt GT11.out)).trans GT11.out
      have cT12 := (six_one gT12).1
      have GT12 := (show Hid (w12.heap[T]? = some (.cells #[.slice na ns.length ncap] 26 (0, 0))) from gT12)
      have gA12 := (b12.block _ (blk_lt GA11.out)).trans GA11.out
      have cA12 := (six_one gA12).1
      have GA12 := (show Hid (w12.heap[A]? = some (.cells #[.slice va7 (ns.length + 1) vc7] 26 (0, 0))) from gA12)
      have gH12 := (b12.block _ (blk_lt GH11.out)).trans GH11.out
      have cH12 := (six_one gH12).1
      have GH12 := (show Hid (w12.heap[H]? = some (.cells #[.slice ha (ns.length + 1) hc] 26 (0, 0))) from gH12)
      have gX12 := (b12.block _ (blk_lt GX11.out)).trans GX11.out
      have cX12 := (six_one gX12).1
      have GX12 := (show Hid (w12.heap[X]? = some (.cells #[.slice xa xn xc] 26 (0, 0))) from gX12)
      have NT12 := (show Hid (NodesAt w12 (.slice na ns.length ncap) ns) from NT11.out.below b12)
      have NA12 := (show Hid (NodesAt w12 (.slice va7 (ns.length + 1) vc7) (ns ++ [⟨5, ⟨#[]⟩, [], ⟨#[120]⟩, -1, []⟩])) from NA11.out.below b12)
      have NH12 := (show Hid (NodesAt w12 (.slice ha (ns.length + 1) hc) (hangN (ns ++ [⟨5, ⟨#[]⟩, [], ⟨#[120]⟩, -1, []⟩]) ns.length 0)) from NH11.out.below b12)
      have B12 := (show Hid (Below w0.heap.size w0 w12) from B11.out.trans (b12.mono B11.out.size))
      clear gT12 GT11 cT11 gA12 GA11 cA11 gH12 GH11 cH11 gX12 GX11 cX11 NT11 NA11 NH11 b12 B11
      go_wp2
      go_ret
      exact ⟨by simp, B12.out⟩
    | true =>
      have hxn := HXN.out rfl
      obtain ⟨xa', xc', e0, hx1, hx2, _⟩ := hxn.slice
      cases e0
      have htm := (HR.out.mp rfl).2
      have hcc := (HR.out.mp rfl).1
      have HTM := (show Hid (TreeOkP ms) from htm)
      have HPT := (show Hid (strL (printL ms ms.length 0) = s' ++ ⟨#[38, 108, 116, 59, 38, 97, 109, 112, 59, 122]⟩) from (by
        rw [printed_text HOK.out hcc.2.1 hcc.2.2 (by decide) htm (by simpa using HMS.out), HSE.out, ← strL_app]
        rfl : strL (printL ms ms.length 0) = s' ++ ⟨#[38, 108, 116, 59, 38, 97, 109, 112, 59, 122]⟩))
      have NX10 := (show Hid (NodesAt w10 (.slice xa ms.length xc) ms) from hxn)
      clear htm hcc HR HXN HMS hxn
      obtain ⟨w11, hw11⟩ : ∃ x, x = w10.alloc (.cells #[.slice xa ms.length xc] 26) := ⟨_, rfl⟩
      have b11 : Below w10.heap.size w10 w11 := by rw [hw11]; exact (Below.refl _ _).alloc (Nat.le_refl _) _
      have gn11 : w11.heap[w10.heap.size]? = some (.cells #[.slice xa ms.length xc] 26 (0, 0)) := by rw [hw11]; exact World.alloc_heap_new _ _
      obtain ⟨X, hX⟩ : ∃ x, x = w10.heap.size := ⟨_, rfl⟩
      rw [← hX] at gn11
      have cX11 := (six_one gn11).1
      have GX11 := (show Hid (w11.heap[X]? = some (.cells #[.slice xa ms.length xc] 26 (0, 0))) from gn11)
      clear gn11
      have gT11 := (b11.block _ (blk_lt GT10.out)).trans GT10.out
      have cT11 := (six_one gT11).1
      have GT11 := (show Hid (w11.heap[T]? = some (.cells #[.slice na ns.length ncap] 26 (0, 0))) from gT11)
      have gA11 := (b11.block _ (blk_lt GA10.out)).trans GA10.out
      have cA11 := (six_one gA11).1
      have GA11 := (show Hid (w11.heap[A]? = some (.cells #[.slice va7 (ns.length + 1) vc7] 26 (0, 0))) from gA11)
      have gH11 := (b11.block _ (blk_lt GH10.out)).trans GH10.out
      have cH11 := (six_one gH11).1
      have GH11 := (show Hid (w11.heap[H]? = some (.cells #[.slice ha (ns.length + 1) hc] 26 (0, 0))) from gH11)
      have NT11 := (show Hid (NodesAt w11 (.slice na ns.length ncap) ns) from NT10.out.below b11)
      have NA11 := (show Hid (NodesAt w11 (.slice va7 (ns.length + 1) vc7) (ns ++ [⟨5, ⟨#[]⟩, [], ⟨#[120]⟩, -1, []⟩])) from NA10.out.below b11)
      have NH11 := (show Hid (NodesAt w11 (.slice ha (ns.length + 1) hc) (hangN (ns ++ [⟨5, ⟨#[]⟩, [], ⟨#[120]⟩, -1, []⟩]) ns.length 0)) from NH10.out.below b11)
      have NX11 := (show Hid (NodesAt w11 (.slice xa ms.length xc) ms) from NX10.out.below b11)
      have B11 := (show Hid (Below w0.heap.size w0 w11) from B10.out.trans (b11.mono B10.out.size))
      clear gT11 GT10 cT10 gA11 GA10 cA10 gH11 GH10 cH10 NT10 NA10 NH10 NX10 b11 B10
      go_upto_region 14 with fail
      rw [← hw11, ← hX]
      clear hw11 hX
      go_wp2_with fail
      go_at_call 26
      refine Calls.mono (iprint_any NH11.out HFH.out (by rw [HML.out]; omega)) ?_
      rintro e w12 ⟨s8, rfl, hs1, hs2, b12⟩
      obtain rfl : s8 = s' ++ ⟨#[60, 33, 45, 45, 120, 45, 45, 62]⟩ := by rw [hs1 HPC.out.2.1, HPH.out]
      clear hs1 hs2
      have gT12 := (b12.block _ (blk_lt GT11.out)).trans GT11.out
      have cT12 := (six_one gT12).1
      have GT12 := (show Hid (w12.heap[T]? = some (.cells #[.slice na ns.length ncap] 26 (0, 0))) from gT12)
      have gA12 := (b12.block _ (blk_lt GA11.out)).trans GA11.out
      have cA12 := (six_one gA12).1
      have GA12 := (show Hid (w12.heap[A]? = some (.cells #[.slice va7 (ns.length + 1) vc7] 26 (0, 0))) from gA12)
      have gH12 := (b12.block _ (blk_lt GH11.out)).trans GH11.out
      have cH12 := (six_one gH12).1
      have GH12 := (show Hid (w12.heap[H]? = some (.cells #[.slice ha (ns.length + 1) hc] 26 (0, 0))) from gH12)
      have gX12 := (b12.block _ (blk_lt GX11.out)).trans GX11.out
      have cX12 := (six_one gX12).1
      have GX12 := (show Hid (w12.heap[X]? = some (.cells #[.slice xa ms.length xc] 26 (0, 0))) from gX12)
      have NT12 := (show Hid (NodesAt w12 (.slice na ns.length ncap) ns) from NT11.out.below b12)
      have NA12 := (show Hid (NodesAt w12 (.slice va7 (ns.length + 1) vc7) (ns ++ [⟨5, ⟨#[]⟩, [], ⟨#[120]⟩, -1, []⟩])) from NA11.out.below b12)
      have NH12 := (show Hid (NodesAt w12 (.slice ha (ns.length + 1) hc) (hangN (ns ++ [⟨5, ⟨#[]⟩, [], ⟨#[120]⟩, -1, []⟩]) ns.length 0)) from NH11.out.below b12)
      have NX12 := (show Hid (NodesAt w12 (.slice xa ms.length xc) ms) from NX11.out.below b12)
      have B12 := (show Hid (Below w0.heap.size w0 w12) from B11.out.trans (b12.mono B11.out.size))
      clear gT12 GT11 cT11 gA12 GA11 cA11 gH12 GH11 cH11 gX12 GX11 cX11 NT11 NA11 NH11 NX11 b12 B11
      go_wp2_with fail
      go_at_call 26
      refine Calls.mono (iprint_any NX12.out HFX.out (by omega)) ?_
      rintro e w13 ⟨s9, rfl, hs1, hs2, b13⟩
      obtain rfl : s9 = s' ++ ⟨#[38, 108, 116, 59, 38, 97, 109, 112, 59, 122]⟩ := by rw [hs1 HTM.out, HPT.out]
      clear hs1 hs2
      have gT13 := (b13.block _ (blk_lt GT12.out)).trans GT12.out
      have cT13 := (six_one gT13).1
      have GT13 := (show Hid (w13.heap[T]? = some (.cells #[.slice na ns.length ncap] 26 (0, 0))) from gT13)
      have gA13 := (b13.block _ (blk_lt GA12.out)).trans GA12.out
      have cA13 := (six_one gA13).1
      have GA13 := (show Hid (w13.heap[A]? = some (.cells #[.slice va7 (ns.length + 1) vc7] 26 (0, 0))) from gA13)
      have gH13 := (b13.block _ (blk_lt GH12.out)).trans GH12.out
      have cH13 := (six_one gH13).1
      have GH13 := (show Hid (w13.heap[H]? = some (.cells #[.slice ha (ns.length + 1) hc] 26 (0, 0))) from gH13)
      have gX13 := (b13.block _ (blk_lt GX12.out)).trans GX12.out
      have cX13 := (six_one gX13).1
      have GX13 := (show Hid (w13.heap[X]? = some (.cells #[.slice xa ms.length xc] 26 (0, 0))) from gX13)
      have NT13 := (show Hid (NodesAt w13 (.slice na ns.length ncap) ns) from NT12.out.below b13)
      have NA13 := (show Hid (NodesAt w13 (.slice va7 (ns.length + 1) vc7) (ns ++ [⟨5, ⟨#[]⟩, [], ⟨#[120]⟩, -1, []⟩])) from NA12.out.below b13)
      have NH13 := (show Hid (NodesAt w13 (.slice ha (ns.length + 1) hc) (hangN (ns ++ [⟨5, ⟨#[]⟩, [], ⟨#[120]⟩, -1, []⟩]) ns.length 0)) from NH12.out.below b13)
      have NX13 := (show Hid (NodesAt w13 (.slice xa ms.length xc) ms) from NX12.out.below b13)
      have B13 := (show Hid (Below w0.heap.size w0 w13) from B12.out.trans (b13.mono B12.out.size))
      clear gT13 GT12 cT12 gA13 GA12 cA12 gH13 GH12 cH12 gX13 GX12 cX12 NT12 NA12 NH12 NX12 b13 B12
      go_wp2
      go_ret
      exact ⟨by simp, B13.out⟩

theorem fnPrinted_walk {v : Value} {xs : List Int} (w : World) (h : Sl .u8 w v xs) (hwf : ∀ n ∈ xs, (Lit.int .u8 n).wf = true) :
    Calls Tryz.prog 7 #[v] w fun e w' => e = .returned (.bool true) ∧ Below w.heap.size w w' := by
  by_cases hl : 1048576 < xs.length
  · exact fnPrinted_big w h hl
  · exact fnPrinted_of w h hl (drawPrintOf_any h (byte_ok hwf) (by omega))
end Go.Proofs.YtogdbjafibejdaaGreat
