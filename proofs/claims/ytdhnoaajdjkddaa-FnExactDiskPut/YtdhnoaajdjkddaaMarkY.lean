/- Marks of a disk whose rows may be empty without room. No condition. -/
import Derived.Test.YtdhnoaajdjkddaaWDisk
import Derived.Test.YtdhnoaajdjkddaaID3
namespace Go.Proofs.Ytdhnoaajdjkddaa
open Go.RowKit
set_option maxRecDepth 100000
set_option linter.unusedVariables false

/-- The block that a slice can be written through. -/
def zB : Value → Option Nat
  | .slice (some a) _ (_ + 1) => some a.block
  | _ => none
/-- A row that is empty and has no room, or one of the call's own. -/
def OwnY (B e size : Nat) (w : World) (v : Value) (n : Nat) (xs : List Value) : Prop :=
  (n = 0 ∧ xs = [] ∧ ∃ a, v = .slice a 0 0 ∧ (a = none → True)) ∨ (w.ownsRow B e size v n xs ∧ ∃ g m c, v = .slice (some ⟨g, 0, none⟩) m (c + 1))
theorem OwnY.of {B e size n : Nat} {w : World} {v : Value} {xs : List Value} (h : OwnZ B e size w v n xs) : OwnY B e size w v n xs := by
  rcases h with h | ⟨h1, h2, a, h3⟩
  · have h' := h
    obtain ⟨hl, ⟨hv, h0⟩ | ⟨g, cap, cur, hv, hB, hh, hn, hm, hs, ht⟩⟩ := h'
    · subst h0
      exact .inl ⟨rfl, List.length_eq_zero_iff.mp (by simpa using hl), none, hv, fun _ => trivial⟩
    · cases cap with
      | zero =>
        obtain rfl : n = 0 := by omega
        exact .inl ⟨rfl, List.length_eq_zero_iff.mp (by simpa using hl), _, hv, fun _ => trivial⟩
      | succ c => exact .inr ⟨h, g, n, c, hv⟩
  · exact .inl ⟨h1, h2, some a, h3, fun _ => trivial⟩
theorem OwnY.below {B e size n : Nat} {w w' : World} {v : Value} {xs : List Value} (h : OwnY B e size w v n xs) (b : Below w.heap.size w w') : OwnY B e size w' v n xs := by
  rcases h with h | ⟨h, k⟩
  · exact .inl h
  · exact .inr ⟨ownsRow_below h b, k⟩
theorem OwnY.sv {B e size n : Nat} {w : World} {v : Value} {xs : List Value} (h : OwnY B e size w v n xs) : Sv size w v xs := by
  rcases h with ⟨rfl, rfl, a, rfl, _⟩ | ⟨h, _⟩
  · exact ⟨a, 0, 0, rfl, by simp, Nat.le_refl _, Nat.zero_le _, fun _ => rfl, fun i hi => by simp at hi⟩
  · exact sv_of_own h
theorem OwnY.lt {B e size n : Nat} {w : World} {v : Value} {xs : List Value} (h : OwnY B e size w v n xs) (j : Nat) (hj : zB v = some j) : B ≤ j ∧ j < w.heap.size := by
  rcases h with ⟨_, _, a, rfl, _⟩ | ⟨h, g, m, c, rfl⟩
  · cases a <;> cases hj
  · cases hj; exact World.ownsRow.lt h _ rfl
theorem OwnY.kind {B e size n : Nat} {w : World} {v : Value} {xs : List Value} (h : OwnY B e size w v n xs) {j : Nat} (hj : zB v = some j) : ∃ cs fr, w.heap[j]? = some (.cells cs e fr) := by
  rcases h with ⟨_, _, a, rfl, _⟩ | ⟨h, g, m, c, rfl⟩
  · cases a <;> cases hj
  · cases hj; exact rk_kind h rfl
theorem TwoFr.rowY {r s : Option Nat} {B e size n : Nat} {w w' : World} {v : Value} {xs : List Value} (h : TwoFr r s w w') (ho : OwnY B e size w v n xs) (hr : ∀ j, zB v = some j → some j ≠ r) (hs : ∀ j, zB v = some j → some j ≠ s) : OwnY B e size w' v n xs := by
  rcases ho with ho | ⟨ho, g, m, c, rfl⟩
  · exact .inl ho
  · refine .inr ⟨h.row ho (fun j e => ?_) (fun j e => ?_), g, m, c, rfl⟩
    · cases e; exact hr g rfl
    · cases e; exact hs g rfl
theorem TwoFr.varY {r s : Option Nat} {B size n B' size' n' e e' : Nat} {w w' : World} {v u : Value} {xs ys : List Value} (h : TwoFr r s w w') (o1 : OwnY B e size w v n xs) (o2 : OwnY B' e' size' w u n' ys) (h1 : zB v = r) (h2 : zB u = s)
    {j : Nat} {cs : Array Value} {t : TypeId} {fr : Nat × Nat} (hj : w.heap[j]? = some (.cells cs t fr)) (t1 : t ≠ e) (t2 : t ≠ e') : w'.heap[j]? = some (.cells cs t fr) := by
  refine (h.block j (lt_of_block hj) (fun er => ?_) (fun er => ?_)).trans hj
  · obtain ⟨c2, f2, k2⟩ := o1.kind (h1.trans er.symm)
    rw [hj] at k2; cases k2; exact t1 rfl
  · obtain ⟨c2, f2, k2⟩ := o2.kind (h2.trans er.symm)
    rw [hj] at k2; cases k2; exact t2 rfl

set_option maxHeartbeats 2000000 in
set_option maxRecDepth 100000 in
theorem markStringS_Y {B : Nat} {v : Value} {rs : List ByteArray} {w : World} (h : OwnY B 9 1 w v rs.length (strCells rs)) (k0 : Int) (h0 : 0 ≤ k0) (hk : k0 ≤ 4000000) (hn : rs.length ≤ 4000000) :
    Calls Try.prog 60 #[v, .int .i64 k0] w fun e w' => e = .returned (.int .i64 (k0 + rs.length)) ∧ OwnY B 9 1 w' v rs.length (strCells (markStrs k0 rs.length)) ∧ w.grownBy w' (zB v) := by
  rcases h with ⟨hz, hx, a, rfl, ha⟩ | ⟨h, g, m, c, rfl⟩
  · have hr : rs = [] := List.length_eq_zero_iff.mp hz
    subst hr
    have hb : zB (.slice a 0 0) = none := by cases a <;> rfl
    rw [hb]
    go_enter Try.func60, Try.ntmps60
    go_wp2
    go_loop [1, 5] (fun q i => i = .int .i64 0 ∧ q = .int .i64 k0) (fun _ _ => 0)
    case atStart => exact ⟨rfl, rfl⟩
    case round =>
      obtain ⟨rfl, rfl⟩ := hrel
      go_wp2
      go_ret
      exact ⟨ret_int (by simp), .inl ⟨rfl, rfl, a, rfl, ha⟩, World.grownBy.refl _ _⟩
  · refine (markStringS_any h k0 h0 hk hn).mono ?_
    rintro e w' ⟨rfl, o, gr⟩
    exact ⟨rfl, .inr ⟨o, g, m, c, rfl⟩, gr⟩

set_option maxHeartbeats 2000000 in
set_option maxRecDepth 100000 in
theorem markPutS_Y {B : Nat} {v : Value} {rs : List (Int × ByteArray)} {w : World} (h : OwnY B 37 2 w v rs.length (putCells rs)) (k0 : Int) (h0 : 0 ≤ k0) (hk : k0 ≤ 4000000) (hn : rs.length ≤ 4000000) :
    Calls Try.prog 61 #[v, .int .i64 k0] w fun e w' => e = .returned (.int .i64 (k0 + 2 * rs.length)) ∧ OwnY B 37 2 w' v rs.length (putCells (markPuts k0 rs.length)) ∧ w.grownBy w' (zB v) := by
  rcases h with ⟨hz, hx, a, rfl, ha⟩ | ⟨h, g, m, c, rfl⟩
  · have hr : rs = [] := List.length_eq_zero_iff.mp hz
    subst hr
    have hb : zB (.slice a 0 0) = none := by cases a <;> rfl
    rw [hb]
    go_enter Try.func61, Try.ntmps61
    go_wp2
    go_loop [1, 5] (fun q i => i = .int .i64 0 ∧ q = .int .i64 k0) (fun _ _ => 0)
    case atStart => exact ⟨rfl, rfl⟩
    case round =>
      obtain ⟨rfl, rfl⟩ := hrel
      go_wp2
      go_ret
      exact ⟨ret_int (by simp), .inl ⟨rfl, rfl, a, rfl, ha⟩, World.grownBy.refl _ _⟩
  · refine (markPutS_any h k0 h0 hk hn).mono ?_
    rintro e w' ⟨rfl, o, gr⟩
    exact ⟨rfl, .inr ⟨o, g, m, c, rfl⟩, gr⟩
theorem OwnY.other {B e size n B' e' size' n' : Nat} {w w' : World} {v u : Value} {xs ys : List Value} (h : OwnY B e size w v n xs) (g : w.grownBy w' (zB v)) (o : OwnY B' e' size' w u n' ys) (ht : e ≠ e') : OwnY B' e' size' w' u n' ys := by
  rcases o with o | ⟨o, k⟩
  · exact .inl o
  · exact .inr ⟨rk_type o g (fun r er => by obtain ⟨c, f, hh⟩ := h.kind er; exact ⟨c, e, f, hh, ht⟩), k⟩

set_option maxHeartbeats 2000000 in
set_option maxRecDepth 100000 in
theorem markDisk_Y {B : Nat} {d : PDisk} {w : World} {sa : Option Addr} {sn sc : Nat} {la : Option Addr} {ln lc : Nat} (h1 : OwnY B 9 1 w (.slice sa sn sc) d.safe.length (strCells d.safe)) (h2 : OwnY B 37 2 w (.slice la ln lc) d.late.length (putCells d.late)) (hf : DiskFit d) :
    Calls Try.prog 28 #[.agg #[.slice sa sn sc, .slice la ln lc], .int .i64 1] w fun e w' => e = .returned (.int .i64 (1 + d.safe.length + 2 * d.late.length)) ∧ OwnY B 9 1 w' (.slice sa sn sc) d.safe.length (strCells (markStrs 1 d.safe.length)) ∧ OwnY B 37 2 w' (.slice la ln lc) d.late.length (putCells (markPuts (1 + d.safe.length) d.late.length)) ∧
      TwoFr (zB (Value.slice sa sn sc)) (zB (Value.slice la ln lc)) w w' := by
  have f1 := hf.sl
  have f2 := hf.ll
  have H1 := (show Hid (OwnY B 9 1 w (.slice sa sn sc) d.safe.length (strCells d.safe)) from h1)
  have H2 := (show Hid (OwnY B 37 2 w (.slice la ln lc) d.late.length (putCells d.late)) from h2)
  clear h1 h2 hf
  obtain ⟨w1, hw1⟩ : ∃ x, x = w.alloc (.cells #[.slice sa sn sc, .slice la ln lc] 27) := ⟨_, rfl⟩
  have b1 : Below w.heap.size w w1 := by rw [hw1]; exact (Below.refl _ _).alloc (Nat.le_refl _) _
  have x1 : w1.heap[w.heap.size]? = some (.cells #[.slice sa sn sc, .slice la ln lc] 27 (0, 0)) := by rw [hw1]; exact World.alloc_heap_new _ _
  have X1 := (show Hid _ from x1)
  clear x1
  go_enter Try.func28, Try.ntmps28
  go_wp2_with fail
  go_at_call 60
  rw [← hw1]
  refine (markStringS_Y (H1.out.below b1) 1 (by decide) (by decide) (by omega)).mono ?_
  rintro x w2 ⟨rfl, o2, g2⟩
  clear hw1
  have hne : some w.heap.size ≠ zB (Value.slice sa sn sc) := fun e => by
    have := (H1.out.lt w.heap.size e.symm).2
    omega
  have y1 := (g2.block _ (lt_of_block X1.out) hne).trans X1.out
  obtain ⟨_, c2, _, _⟩ := rk_two y1
  have p2 : OwnY B 37 2 w2 (.slice la ln lc) d.late.length (putCells d.late) := (H1.out.below b1).other g2 (H2.out.below b1) (by decide)
  have O2 := (show Hid (OwnY B 9 1 w2 (.slice sa sn sc) d.safe.length (strCells (markStrs 1 d.safe.length))) from o2)
  have P2 := (show Hid (OwnY B 37 2 w2 (.slice la ln lc) d.late.length (putCells d.late)) from p2)
  have G2 := (show Hid (w1.grownBy w2 (zB (Value.slice sa sn sc))) from g2)
  have B1 := (show Hid (Below w.heap.size w w1) from b1)
  clear o2 p2 g2 y1 b1 X1
  go_wp2_with fail
  go_at_call 61
  refine (markPutS_Y P2.out (1 + d.safe.length) (by omega) (by omega) (by omega)).mono ?_
  rintro x w3 ⟨rfl, o3, g3⟩
  have p3 : OwnY B 9 1 w3 (.slice sa sn sc) d.safe.length (strCells (markStrs 1 d.safe.length)) := by
    have hl : (markStrs 1 d.safe.length).length = d.safe.length := markStrs_len _ _
    exact P2.out.other g3 O2.out (by decide)
  have fr : TwoFr (zB (Value.slice sa sn sc)) (zB (Value.slice la ln lc)) w w3 := ⟨g3.os.trans (G2.out.os.trans B1.out.os), g3.tape.trans (G2.out.tape.trans B1.out.tape), g3.output.trans (G2.out.output.trans B1.out.output), Nat.le_trans B1.out.size (Nat.le_trans G2.out.size g3.size),
    fun j hj h1 h2 => (g3.block j (Nat.lt_of_lt_of_le hj (Nat.le_trans B1.out.size G2.out.size)) h2).trans ((G2.out.block j (Nat.lt_of_lt_of_le hj B1.out.size) h1).trans (B1.out.block j hj))⟩
  have O3 := (show Hid (OwnY B 37 2 w3 (.slice la ln lc) d.late.length (putCells (markPuts (1 + d.safe.length) d.late.length))) from o3)
  have P3 := (show Hid (OwnY B 9 1 w3 (.slice sa sn sc) d.safe.length (strCells (markStrs 1 d.safe.length))) from p3)
  have FR := (show Hid (TwoFr (zB (Value.slice sa sn sc)) (zB (Value.slice la ln lc)) w w3) from fr)
  clear o3 p3 fr g3
  go_wp2
  go_ret
  exact ⟨rfl, P3.out, O3.out, FR.out⟩
end Go.Proofs.Ytdhnoaajdjkddaa
