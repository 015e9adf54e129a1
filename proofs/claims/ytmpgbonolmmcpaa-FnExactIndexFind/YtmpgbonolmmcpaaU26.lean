/- The exact laws of AttrsOk, AttrOf and AttrsSame, walked from contracts of the program's functions. -/
import Derived.Test.YtmpgbonolmmcpaaU25
import Derived.Test.YtmpgbonolmmcpaaU21
import Derived.Test.YtmpgbonolmmcpaaU22
namespace Go.Proofs.Ytmpgbonolmmcpaa
open Go.RowKit
set_option maxRecDepth 100000
set_option linter.unusedVariables false

/-- Every text of a list is short. -/
def Short (rs : List (ByteArray × ByteArray)) : Prop := rs.length ≤ 1048576 ∧ ∀ p ∈ rs, p.1.size ≤ 1099511627776 ∧ p.2.size ≤ 1099511627776

theorem short_of {rs : List (ByteArray × ByteArray)} {l r : Int} (hl : l ≤ 1048576) (h : (rs.length : Int) ≤ l ∧ ∀ p ∈ rs, (p.1.size : Int) + p.2.size ≤ l) : Short rs :=
  ⟨by have := h.1; omega, fun p hp => by have := h.2 p hp; omega⟩

end Go.Proofs.Ytmpgbonolmmcpaa

/- What the exact law of AttrAdd asks of the program's function, and rows of values that are apart. -/
namespace Go.Proofs.Ytmpgbonolmmcpaa
open Go.RowKit
set_option maxRecDepth 100000
set_option linter.unusedVariables false

theorem row_ne {B size size' n n' : Nat} {e e' : TypeId} {w w' : World} {v v' : Value} {xs ys : List Value} (h : w.ownsRow B e size v n xs) (h' : w'.ownsRow w.heap.size e' size' v' n' ys) :
    ∀ k j, v.ownBlock = some k → v'.ownBlock = some j → k ≠ j := fun k j hk hj => by
  have a := (World.ownsRow.lt h k hk).2
  have b := (World.ownsRow.lt h' j hj).1
  omega
theorem row_kept {B size n : Nat} {e : TypeId} {w w' : World} {v v1 : Value} {xs : List Value} (h : w.ownsRow B e size v n xs) (hg : w.grownBy w' v1.ownBlock)
    (hne : ∀ k j, v.ownBlock = some k → v1.ownBlock = some j → k ≠ j) : w'.ownsRow B e size v n xs := by
  by_cases h0 : v.ownBlock = none
  · exact World.ownsRow.kept h hg (.inl h0)
  · obtain ⟨k, hk⟩ := Option.ne_none_iff_exists'.mp h0
    by_cases h1 : v1.ownBlock = none
    · exact World.ownsRow.kept h hg (.inr (by rw [h1]; exact h0))
    · obtain ⟨j, hj⟩ := Option.ne_none_iff_exists'.mp h1
      exact World.ownsRow.kept h hg (.inr (by rw [hk, hj]; intro e; exact hne k j hk hj (Option.some.inj e)))
theorem row_base {B B' size n : Nat} {e : TypeId} {w : World} {v : Value} {xs : List Value} (h : w.ownsRow B e size v n xs) (hB : B' ≤ B) : w.ownsRow B' e size v n xs := by
  obtain ⟨hl, hv | ⟨g, cap, cur, hv, hb, r⟩⟩ := h
  · exact ⟨hl, .inl hv⟩
  · exact ⟨hl, .inr ⟨g, cap, cur, hv, Nat.le_trans hB hb, r⟩⟩

theorem attrAdd_len (rs : List (ByteArray × ByteArray)) (p : ByteArray × ByteArray) : (attrAdd rs p).length ≤ rs.length + 1 := by unfold attrAdd; split <;> simp
end Go.Proofs.Ytmpgbonolmmcpaa

/- The exact law of Records from its contract. -/
namespace Go.Proofs.Ytmpgbonolmmcpaa
open Go.RowKit
set_option maxRecDepth 100000
set_option linter.unusedVariables false

def RecordsOk : Prop := ∀ (v : Value) (xs : List Int) (w : World), Sl .u8 w v xs → (∀ x ∈ xs, 0 ≤ x ∧ x ≤ 255) → xs.length ≤ 1048576 → Calls Try.prog 18 #[v] w fun e w' => ∃ v', e = .returned (.tuple #[v', .bool (recsR xs).2]) ∧ OwnRs w.heap.size w' v' (recsR xs).1 ∧ Below w.heap.size w w'

theorem recsF_len {xs : List Int} (hb : ∀ x ∈ xs, 0 ≤ x ∧ x ≤ 255) : ∀ (f i : Nat) (l : List PRec), recsF xs f i = some l → l.length ≤ xs.length - i := by
  intro f
  induction f with
  | zero => intro i l h; cases h
  | succ f ih =>
    intro i l h
    unfold recsF at h
    split at h
    · rename_i hi
      split at h
      · rename_i hok
        have hn := readR_next (r := (readR xs i).1) (j := (readR xs i).2.1) (by rw [← hok]) hb
        cases hq : recsF xs f (readR xs i).2.1.toNat with
        | none => rw [hq] at h; cases h
        | some l' =>
          rw [hq] at h
          simp only [Option.map_some, Option.some.injEq] at h
          have := ih _ _ hq
          rw [← h, List.length_cons]
          omega
      · cases h
    · simp only [Option.some.injEq] at h
      rw [← h]
      exact Nat.zero_le _
theorem recsR_len {xs : List Int} (hb : ∀ x ∈ xs, 0 ≤ x ∧ x ≤ 255) : (recsR xs).1.length ≤ xs.length := by
  unfold recsR
  cases h : recsF xs (xs.length + 1) 0 with
  | none => exact Nat.zero_le _
  | some l => exact recsF_len hb _ _ _ h

set_option maxHeartbeats 1000000 in
set_option maxRecDepth 100000 in
theorem fnExactRecords_of (H : RecordsOk) {v : Value} {xs : List Int} (w : World) (h : Sl .u8 w v xs) (hwf : ∀ n ∈ xs, (Lit.int .u8 n).wf = true) :
    Calls Try.prog 8 #[v] w fun e w' => e = .returned (.bool true) ∧ Below w.heap.size w w' := by
  have h0 := h
  have hw := h
  obtain ⟨a, ca, rfl, _, _, _, ha⟩ := h
  clear ha
  by_cases hbig : 1048576 < xs.length
  · go_enter Try.func8, Try.ntmps8
    go_wp2
    go_ret
    exact ⟨rfl, Below.refl _ _⟩
  have hn : xs.length ≤ 1048576 := by omega
  have HS := (show Hid (∀ (v : Value) (w : World), Sl .u8 w v xs → Calls Try.prog 19 #[v] w fun e w' => ∃ v', e = .returned (.tuple #[v', .bool (recsR xs).2]) ∧ OwnRs w.heap.size w' v' (recsR xs).1 ∧ Below w.heap.size w w') from fun v w h => srecords_any h (byte_ok hwf) hn)
  have HI := (show Hid (∀ (v : Value) (w : World), Sl .u8 w v xs → Calls Try.prog 18 #[v] w fun e w' => ∃ v', e = .returned (.tuple #[v', .bool (recsR xs).2]) ∧ OwnRs w.heap.size w' v' (recsR xs).1 ∧ Below w.heap.size w w') from fun v w h => H v xs w h (byte_ok hwf) hn)
  have hl := recsR_len (byte_ok hwf)
  obtain ⟨⟨rs, ok⟩, hq⟩ : ∃ q, q = recsR xs := ⟨_, rfl⟩
  rw [← hq] at HS HI hl
  simp only at HS HI hl
  have e1 : (ok != ok) = false := by cases ok <;> rfl
  clear hq H hwf
  go_enter Try.func8, Try.ntmps8
  go_wp2_with fail
  go_at_call 34
  refine (toB_any h0 (by omega)).mono ?_
  rintro e w1 ⟨x1, rfl, ox1, b1⟩
  replace h0 := h0.below b1
  go_wp2_with fail
  go_at_call 19
  refine (HS.out _ _ (Own.sl ox1)).mono ?_
  rintro e w2 ⟨v1, rfl, o1, b2⟩
  replace h0 := h0.below b2
  have B : Below w.heap.size w w2 := b1.trans (b2.mono b1.size)
  replace o1 := row_base o1 b1.size
  clear ox1 b1 b2 HS
  go_wp2_with fail
  go_at_call 34
  refine (toB_any h0 (by omega)).mono ?_
  rintro e w3 ⟨x0, rfl, ox, b3⟩
  have d1 := row_ne o1 ox
  have hbs := B.size
  replace h0 := h0.below b3
  replace o1 := ownsRow_below o1 b3
  replace B := B.trans (b3.mono hbs)
  replace ox := ox.base hbs
  clear b3 hbs
  go_wp2_with fail
  go_at_call 18
  refine (HI.out _ _ (Own.sl ox)).mono ?_
  rintro e w4 ⟨v2, rfl, o2, b4⟩
  have d2 := row_ne ox o2
  have d3 := row_ne o1 o2
  have hbs := B.size
  replace h0 := h0.below b4
  replace o1 := ownsRow_below o1 b4
  replace ox := ox.below b4
  replace B := B.trans (b4.mono hbs)
  replace o2 := row_base o2 hbs
  clear b4 hbs
  go_wp2_with fail
  go_at_call 36
  refine (eqRecordS_same (sv_of_own o2) (sv_of_own o1) (by omega)).mono ?_
  rintro e w5 ⟨rfl, b5⟩
  replace h0 := h0.below b5
  replace o1 := ownsRow_below o1 b5
  replace ox := ox.below b5
  replace o2 := ownsRow_below o2 b5
  replace B := B.trans (b5.mono B.size)
  clear b5
  go_wp2_with fail
  go_at_call 34
  refine (toB_any h0 (by omega)).mono ?_
  rintro e w6 ⟨x2, rfl, ox2, b6⟩
  replace h0 := h0.below b6
  replace o1 := ownsRow_below o1 b6
  replace ox := ox.below b6
  replace o2 := ownsRow_below o2 b6
  replace B := B.trans (b6.mono B.size)
  clear b6
  go_wp2_with fail
  go_at_call 30
  refine (eqB_any ox.sl ox2.sl (by omega) (by omega)).mono ?_
  rintro e w7 ⟨rfl, b7⟩
  clear ox2
  replace h0 := h0.below b7
  replace o1 := ownsRow_below o1 b7
  replace ox := ox.below b7
  replace o2 := ownsRow_below o2 b7
  replace B := B.trans (b7.mono B.size)
  clear b7
  go_wp2_with fail
  go_at_call 31
  refine (markB_any ox (by omega) (by omega) (by omega)).mono ?_
  rintro e w8 ⟨rfl, oxm, g8⟩
  replace o1 := row_kept o1 g8 d1
  replace o2 := row_kept o2 g8 (fun k j hk hj => (d2 j k hj hk).symm)
  have hgx : ∀ k, x0.ownBlock = some k → w.heap.size ≤ k := ox.grownAt
  replace B := B.grown g8 B.size hgx
  clear g8 hgx d1 d2 ox oxm
  replace h0 := hw.below B
  go_wp2_with fail
  go_at_call 36
  refine (eqRecordS_same (sv_of_own o2) (sv_of_own o1) (by omega)).mono ?_
  rintro e w9 ⟨rfl, b9⟩
  replace h0 := h0.below b9
  replace o1 := ownsRow_below o1 b9
  replace o2 := ownsRow_below o2 b9
  replace B := B.trans (b9.mono B.size)
  clear b9
  go_wp2_with fail
  go_at_call 37
  refine (markRecordS_any o2 1 (by omega) (by omega) (by omega)).mono ?_
  rintro e w10 ⟨rfl, o2m, g10⟩
  replace o1 := row_kept o1 g10 d3
  replace B := B.grown g10 B.size (fun k hk => (World.ownsRow.lt o2 k hk).1)
  replace h0 := hw.below B
  clear g10 d3 o2
  go_wp2_with fail
  go_at_call 38
  refine (heldRecordS_any 1 (sv_of_own o2m) (by omega) (by omega) (by omega)).mono ?_
  rintro e w11 ⟨rfl, b11⟩
  replace h0 := h0.below b11
  replace o1 := ownsRow_below o1 b11
  replace o2m := ownsRow_below o2m b11
  replace B := B.trans (b11.mono B.size)
  clear b11
  go_wp2_with fail
  go_at_call 34
  refine (toB_any h0 (by omega)).mono ?_
  rintro e w12 ⟨x3, rfl, ox3, b12⟩
  replace h0 := h0.below b12
  replace o1 := ownsRow_below o1 b12
  replace o2m := ownsRow_below o2m b12
  replace B := B.trans (b12.mono B.size)
  clear b12
  go_wp2_with fail
  go_at_call 18
  refine (HI.out _ _ (Own.sl ox3)).mono ?_
  rintro e w13 ⟨v3, rfl, o3, b13⟩
  clear ox3
  replace h0 := h0.below b13
  replace o1 := ownsRow_below o1 b13
  replace o2m := ownsRow_below o2m b13
  replace B := B.trans (b13.mono B.size)
  clear b13
  go_wp2_with fail
  go_at_call 36
  refine (eqRecordS_same (sv_of_own o3) (sv_of_own o1) (by omega)).mono ?_
  rintro e w14 ⟨rfl, b14⟩
  clear o3 o1
  replace o2m := ownsRow_below o2m b14
  replace B := B.trans (b14.mono B.size)
  clear b14
  go_wp2_with fail
  go_at_call 38
  refine (heldRecordS_any 1 (sv_of_own o2m) (by omega) (by omega) (by omega)).mono ?_
  rintro e w15 ⟨rfl, b15⟩
  clear o2m
  replace B := B.trans (b15.mono B.size)
  go_wp2
  go_ret
  exact ⟨rfl, B⟩
end Go.Proofs.Ytmpgbonolmmcpaa

/- The program's Records: its closure, which reads one record behind the other. -/
namespace Go.Proofs.Ytmpgbonolmmcpaa
open Go.RowKit
set_option maxRecDepth 100000
set_option linter.unusedVariables false

/-- What is turned: the blocks g and x, and rows of records. -/
def KeepR (g x : Nat) (w w' : World) : Prop := w.heap.size ≤ w'.heap.size ∧ ∀ j cs t fr, w.heap[j]? = some (.cells cs t fr) → j ≠ g → j ≠ x → t ≠ 25 → w'.heap[j]? = some (.cells cs t fr)
theorem KeepR.refl (g x : Nat) (w : World) : KeepR g x w w := ⟨Nat.le_refl _, fun _ _ _ _ h _ _ _ => h⟩
theorem KeepR.grown {g x : Nat} {w a b : World} (h : KeepR g x w a) (k : a.grownBy b (some g)) : KeepR g x w b :=
  ⟨Nat.le_trans h.1 k.size, fun j cs t fr e n1 n2 n3 => (k.block j (lt_of_block (h.2 j cs t fr e n1 n2 n3)) (fun e => n1 (by injection e))).trans (h.2 j cs t fr e n1 n2 n3)⟩
theorem KeepR.below {g x : Nat} {w a b : World} (h : KeepR g x w a) (k : Below a.heap.size a b) : KeepR g x w b :=
  ⟨Nat.le_trans h.1 k.size, fun j cs t fr e n1 n2 n3 => (k.block j (lt_of_block (h.2 j cs t fr e n1 n2 n3))).trans (h.2 j cs t fr e n1 n2 n3)⟩
theorem KeepR.row {g x : Nat} {w a b : World} (h : KeepR g x w a) {B size n : Nat} {v : Value} {xs : List Value} (o : a.ownsRow B 25 size v n xs) (k : a.grownBy b v.ownBlock) : KeepR g x w b :=
  ⟨Nat.le_trans h.1 k.size, fun j cs t fr e n1 n2 n3 => rk_keep o k (h.2 j cs t fr e n1 n2 n3) n3⟩
theorem KeepR.set {g x : Nat} {w a : World} (h : KeepR g x w a) (k : Nat) (u : Value) : KeepR g x w (a.setCell ⟨x, k, none⟩ u) :=
  ⟨by rw [World.size_setCell]; exact h.1, fun j cs t fr e n1 n2 n3 => (Below.heap_setCell _ _ _ j n2).trans (h.2 j cs t fr e n1 n2 n3)⟩
/-- The place at which the reader in block g stands. -/
def placeOf (w : World) (g : Nat) : Nat := match w.cell? ⟨g, 1, none⟩ with
  | some v => (intOf v).toNat
  | none => 0
theorem placeOf_rdr {w0 : World} {g : Nat} {v : Value} {xs : List Int} {i : Nat} {w : World} (h : Rdr w0 g v xs i w) : placeOf w g = i := by
  unfold placeOf
  rw [h.cells.2.1]
  simp [intOf]
/-- The reader at a place, and what was read so far in the box x. -/
structure RdX (w0 w : World) (B g x : Nat) (v : Value) (xs : List Int) (i : Int) (z : Value) (pre : List PRec) (W : World) : Prop where
  rd : Rdr w0 g v xs i W
  box : Box W x 32 z
  own : OwnRs B W z pre
  keep : KeepR g x w W
theorem RdX.below {w0 w : World} {B g x : Nat} {v : Value} {xs : List Int} {i : Int} {z : Value} {pre : List PRec} {W W' : World} (h : RdX w0 w B g x v xs i z pre W) (b : Below W.heap.size W W') : RdX w0 w B g x v xs i z pre W' :=
  ⟨h.rd.below b, (b.block _ h.box.lt).trans h.box, ownsRow_below h.own b, h.keep.below b⟩
theorem RdX.call {w0 w : World} {B g x : Nat} {v : Value} {xs : List Int} {i j : Int} {z : Value} {pre : List PRec} {W W' : World} (h : RdX w0 w B g x v xs i z pre W) (hx : x ≠ g) (r : Rdr w0 g v xs j W') (k : W.grownBy W' (some g)) : RdX w0 w B g x v xs j z pre W' :=
  ⟨r, h.box.grown k (fun e => hx (by injection e with e; exact e.symm)), rk_type h.own k (fun q e => by cases e; exact ⟨_, _, _, h.rd.2.2.2.2, by decide⟩), h.keep.grown k⟩
/-- A record is put behind what was read. -/
theorem RdX.app {w0 w : World} {B g x : Nat} {v : Value} {xs : List Int} {i : Int} {z z' : Value} {pre pre' : List PRec} {W W' : World} (h : RdX w0 w B g x v xs i z pre W) (hx : x ≠ g) (h0 : w0.heap.size ≤ x) (hB : w0.heap.size ≤ B) (o : OwnRs B W' z' pre') (k : W.grownBy W' z.ownBlock) : RdX w0 w B g x v xs i z' pre' (W'.setCell ⟨x, 0, none⟩ z') := by
  have rb : W'.heap[g]? = some (.cells #[v, .int .i64 i] 74 (0, 0)) := rk_keep h.own k h.rd.2.2.2.2 (by decide)
  have xb : Box W' x 32 z := rk_keep h.own k h.box (by decide)
  have rd' : Rdr w0 g v xs i W' := ⟨h.rd.1, h.rd.2.1, h.rd.2.2.1.grown k h.rd.2.2.1.size (fun r e => Nat.le_trans hB (World.ownsRow.lt h.own r e).1), h.rd.2.2.2.1, rb⟩
  refine ⟨rd'.kept (grown_setCell W' x 0 z') (fun e => hx (by injection e)) (fun k hk => by injection hk with hk; omega), xb.set z', rk_set o xb (by decide), (h.keep.row h.own k).set 0 z'⟩

set_option maxHeartbeats 1000000 in
set_option maxRecDepth 100000 in
theorem closeRecs_any {w0 : World} {B g r bx x : Nat} {v z0 : Value} {xs : List Int} {w : World} (h : RdX w0 w B g x v xs 0 z0 [] w) (hb : ∀ x ∈ xs, 0 ≤ x ∧ x ≤ 255) (hn : xs.length ≤ 1048576) (hr : Box w r 72 (.pointer (some ⟨g, 0, none⟩))) (hbx : Box w bx 22 v)
    (h1 : r ≠ g) (h2 : x ≠ g) (h3 : r ≠ x) (h4 : w0.heap.size ≤ x) (h5 : bx ≠ g) (h6 : bx ≠ x) (h7 : w0.heap.size ≤ B) (h8 : B ≤ w.heap.size) :
    Calls Try.prog 60 #[.pointer (some ⟨r, 0, none⟩), .pointer (some ⟨bx, 0, none⟩), .pointer (some ⟨x, 0, none⟩)] w fun e w' =>
      ((∃ l i z, recsF xs (xs.length + 1) 0 = some l ∧ e = .returned (.tuple #[]) ∧ RdX w0 w B g x v xs i z l w') ∨ (recsF xs (xs.length + 1) 0 = none ∧ Bad e)) ∧ KeepR g x w w' ∧ Below w0.heap.size w0 w' := by
  have HB := (show Hid (∀ x ∈ xs, 0 ≤ x ∧ x ≤ 255) from hb)
  have HR := (show Hid (Box w r 72 (.pointer (some ⟨g, 0, none⟩))) from hr)
  have HX := (show Hid (Box w bx 22 v) from hbx)
  have BX := (show Hid (∀ W, KeepR g x w W → W.cell? ⟨r, 0, none⟩ = some (.pointer (some ⟨g, 0, none⟩)) ∧ W.cell? ⟨bx, 0, none⟩ = some v) from fun W k => ⟨(rk_one (k.2 r _ _ _ HR.out h1 h3 (by decide))).1, (rk_one (k.2 bx _ _ _ HX.out h5 h6 (by decide))).1⟩)
  obtain ⟨va, vc, hv, _⟩ := h.rd.sl
  obtain ⟨i0, hi, hz0, hz1, hz2⟩ := info_parts Try.infoRec
  clear hb hr hbx
  subst hv
  go_enter Try.func60, Try.ntmps60
  go_wp2_with fail
  go_loopw [] (fun wr => ∃ (i f : Nat) (pre : List PRec) (z : Value), i ≤ xs.length ∧ RdX w0 w B g x (.slice va xs.length vc) xs i z pre wr ∧ Hid ((recsF xs f i).map (pre ++ ·) = recsF xs (xs.length + 1) 0) ∧ xs.length < f + i ∧ pre.length ≤ i) (fun wr => xs.length - placeOf wr g)
  case atStart => exact ⟨0, xs.length + 1, [], z0, Nat.zero_le _, h, (show _ = _ by cases recsF xs (xs.length + 1) 0 <;> rfl), by omega, by simp⟩
  case round =>
    obtain ⟨i, f, pre, z, hi1, rx, hF, hf, hp⟩ := hrel
    obtain ⟨za, zn, zc, ez⟩ : ∃ a n c, z = .slice a n c := by
      rcases rx.own.2 with ⟨e, _⟩ | ⟨g, cap, cur, e, _⟩ <;> exact ⟨_, _, _, e⟩
    subst ez
    have RX := (show Hid (RdX w0 w B g x (.slice va xs.length vc) xs i (.slice za zn zc) pre wr) from rx)
    obtain ⟨cr, cb⟩ := BX.out wr rx.keep
    have c1 := rx.rd.cells.2.1
    have cx := rx.box.cell.1
    have hpl : placeOf wr g = i := placeOf_rdr rx.rd
    have HPL := (show Hid (placeOf wr g = i) from hpl)
    clear rx hpl h
    by_cases hlt : i < xs.length
    · have hlt' : (i : Int) < (xs.length : Int) := by omega
      obtain ⟨f', rfl⟩ : ∃ f', f = f' + 1 := ⟨f - 1, by omega⟩
      have HG := (show Hid ((readR xs (i : Int)).2.2 = true → recsF xs (f' + 1) i = (recsF xs f' (readR xs (i : Int)).2.1.toNat).map ((readR xs (i : Int)).1 :: ·)) from fun e => recsF_on hlt e)
      have HN : Hid ((readR xs (i : Int)).2.2 = false → recsF xs (xs.length + 1) 0 = none) := (show (readR xs (i : Int)).2.2 = false → recsF xs (xs.length + 1) 0 = none from fun e => by
        rw [← hF.out, recsF_bad hlt e]; rfl)
      go_wp2
      go_region_held (fun w' => w'.cell? ⟨r, 0, none⟩ = some (.pointer (some ⟨g, 0, none⟩)) ∧ w'.cell? ⟨g, 1, none⟩ = some (.int .i64 (i : Int)) ∧ w'.cell? ⟨bx, 0, none⟩ = some (.slice va xs.length vc)) (go_keep) (fail)
      have CR := (show Hid (∀ W, Below wr.heap.size wr W → Calls Try.prog 58 #[.pointer (some ⟨g, 0, none⟩)] W fun e w' => ((∃ k u b j, readR xs (i : Int) = (⟨k, u, b⟩, j, true) ∧ e = .returned (.agg #[.int .i64 k, .string u, .string b]) ∧ Rdr w0 g (.slice va xs.length vc) xs j w') ∨ ((readR xs (i : Int)).2.2 = false ∧ Bad e ∧ ∃ j, Rdr w0 g (.slice va xs.length vc) xs j w')) ∧ W.grownBy w' (some g)) from fun W b => by
        refine Calls.mono (irecord_any (RX.out.rd.below b) HB.out) ?_
        rintro e w' ⟨⟨⟨k, u, b⟩, j, hy, rfl, r3⟩ | hno, g3⟩
        · exact ⟨.inl ⟨k, u, b, j, hy, rfl, r3⟩, g3⟩
        · exact ⟨.inr hno, g3⟩)
      have HX2 := (show Hid (x ≠ g) from h2)
      have RD := (show Hid (RdX w0 w B g x (.slice va xs.length vc) xs i (.slice za zn zc) pre wr.drew.drew) from RX.out.below (below_drewN 2))
      have HH := (show Hid (w0.heap.size ≤ x ∧ w0.heap.size ≤ B ∧ B ≤ w.heap.size ∧ pre.length ≤ 1048576) from ⟨h4, h7, h8, by omega⟩)
      go_wp2_with fail
      go_region_law (first
        | (go_simp
           go_at_call 58
           with_reducible refine Calls.mono (CR.out wr.drew.drew (below_drewN 2)) ?_
           rintro e w3 ⟨⟨k, u, b, j, hy, rfl, r3⟩ | ⟨hy, ⟨t, s, rfl⟩, j, r3⟩, g3⟩
           rotate_left
           · have rx3 := RD.out.call HX2.out r3 g3
             exact ⟨rfl, .inr ⟨HN.out hy, _, _, rfl⟩, rx3.keep, rx3.rd.2.2.1⟩
           have R3 := (show Hid (RdX w0 w B g x (.slice va xs.length vc) xs j (.slice za zn zc) pre w3) from RD.out.call HX2.out r3 g3)
           have Y3 := (show Hid (readR xs (i : Int) = (⟨k, u, b⟩, j, true)) from hy)
           have cx3 := R3.out.box.cell.1
           have ba : Below w3.heap.size w3 (w3.alloc (.cells #[.int .i64 k, .string u, .string b] 25)) := (Below.refl _ _).alloc (Nat.le_refl _) _
           have R4 := (show Hid (RdX w0 w B g x (.slice va xs.length vc) xs j (.slice za zn zc) pre (w3.alloc (.cells #[.int .i64 k, .string u, .string b] 25))) from R3.out.below ba)
           have cx4 := R4.out.box.cell.1
           have SV := (show Hid (Sv 3 (w3.alloc (.cells #[.int .i64 k, .string u, .string b] 25)) (.slice (some ⟨w3.heap.size, 0, none⟩) 1 1) (recCells [⟨k, u, b⟩])) from sv_oneRec (r := ⟨k, u, b⟩) (World.alloc_heap_new _ _))
           clear hy r3 g3 ba)
        | (with_reducible refine step_appS (w := w3.alloc (.cells #[.int .i64 k, .string u, .string b] 25)) ?_ (.tmp 10) (.tmp 13) 32 ?_ B 25 i0 _ 3 40 ?_ hi hz0 hz1 hz2 ?_ ?_ (.slice za zn zc) pre.length (recCells pre) ?_ R4.out.own (.slice (some ⟨w3.heap.size, 0, none⟩) 1 1) 1 (recCells [⟨k, u, b⟩]) ?_ SV.out ?_ (rec_oneCell _) ?_ ?_ ?_ ?_
           · rfl
           · rfl
           · exact Try.underlying32
           · rfl
           · decide
           · simp [Act.eval]
           · simp [Act.eval]
           · rfl
           · (have := HH.out.2.2.2; unfold maxLen; omega)
           · (have := HH.out.2.2.2; omega)
           · exact Nat.le_trans HH.out.2.2.1 R4.out.keep.1
           intro v5 w5 o5 g5
           obtain ⟨ya, yn, yc, e5⟩ := rk_slice o5
           subst e5
           have R5 := (show Hid (RdX w0 w B g x (.slice va xs.length vc) xs j (.slice ya yn yc) (pre ++ [⟨k, u, b⟩]) (w5.setCell ⟨x, 0, none⟩ (.slice ya yn yc))) from R4.out.app HX2.out HH.out.1 HH.out.2.1 (by show World.ownsRow _ _ _ _ _ _ _; rw [List.length_append, recCells_app]; exact o5) g5)
           obtain ⟨cx5, fx5⟩ := (show Box w5 x 32 (.slice za zn zc) from rk_keep R4.out.own g5 R4.out.box (by decide)).cell
           clear o5 g5))
      all_goals
        obtain ⟨j0, j1, j2, j3, j4, j5⟩ := readR_next Y3.out HB.out
        obtain ⟨jn, rfl⟩ := Int.eq_ofNat_of_zero_le (show 0 ≤ j by omega)
        have HF : Hid ((recsF xs f' jn).map ((pre ++ [⟨k, u, b⟩]) ++ ·) = recsF xs (xs.length + 1) 0) := (show _ = _ by
          rw [← hF.out, HG.out (by rw [Y3.out]), Y3.out]
          simp only [Int.toNat_natCast]
          cases recsF xs f' jn <;> simp)
        have HP := (show Hid (placeOf (w5.setCell ⟨x, 0, none⟩ (.slice ya yn yc)) g = jn) from placeOf_rdr R5.out.rd)
        go_wp2
        go_roundw
        case rel => exact ⟨jn, f', pre ++ [⟨k, u, b⟩], _, by omega, R5.out, HF, by omega, by rw [List.length_append, List.length_singleton]; omega⟩
        case measure => rw [HP.out, HPL.out]; omega
    · have hn' : ¬ ((i : Int) < (xs.length : Int)) := by omega
      obtain ⟨f', rfl⟩ : ∃ f', f = f' + 1 := ⟨f - 1, by omega⟩
      have HZ : Hid (recsF xs (xs.length + 1) 0 = some pre) := (show recsF xs (xs.length + 1) 0 = some pre by
        rw [← hF.out, recsF_end hlt]; simp)
      have RD := (show Hid (RdX w0 w B g x (.slice va xs.length vc) xs i (.slice za zn zc) pre wr.drew) from RX.out.below (below_drewN 1))
      go_wp2
      go_region_held (fun w' => w'.cell? ⟨r, 0, none⟩ = some (.pointer (some ⟨g, 0, none⟩)) ∧ w'.cell? ⟨g, 1, none⟩ = some (.int .i64 (i : Int)) ∧ w'.cell? ⟨bx, 0, none⟩ = some (.slice va xs.length vc)) (go_keep) (fail)
      go_wp2
      go_end0
      exact ⟨.inl ⟨pre, _, _, HZ.out, rfl, RD.out⟩, RD.out.keep, RD.out.rd.2.2.1⟩
end Go.Proofs.Ytmpgbonolmmcpaa

/- The program's Records: readWell round its closure, the face. -/
namespace Go.Proofs.Ytmpgbonolmmcpaa
open Go.RowKit
set_option maxRecDepth 100000
set_option linter.unusedVariables false

set_option maxHeartbeats 400000 in
set_option maxRecDepth 100000 in
theorem wellRecs_any {w0 : World} {B g r bx x : Nat} {v z0 : Value} {xs : List Int} {w : World} (h : RdX w0 w B g x v xs 0 z0 [] w) (hb : ∀ x ∈ xs, 0 ≤ x ∧ x ≤ 255) (hn : xs.length ≤ 1048576) (hr : Box w r 72 (.pointer (some ⟨g, 0, none⟩))) (hbx : Box w bx 22 v)
    (h1 : r ≠ g) (h2 : x ≠ g) (h3 : r ≠ x) (h4 : w0.heap.size ≤ x) (h5 : bx ≠ g) (h6 : bx ≠ x) (h7 : w0.heap.size ≤ B) (h8 : B ≤ w.heap.size) :
    Calls Try.prog 56 #[.func (.func 60) #[] #[.pointer (some ⟨r, 0, none⟩), .pointer (some ⟨bx, 0, none⟩), .pointer (some ⟨x, 0, none⟩)]] w fun e w' =>
      ((∃ l z, recsF xs (xs.length + 1) 0 = some l ∧ e = .returned (.bool true) ∧ Box w' x 32 z ∧ OwnRs B w' z l) ∨ (recsF xs (xs.length + 1) 0 = none ∧ e = .returned (.bool false))) ∧ Below w0.heap.size w0 w' := by
  have hmf : ∀ (fn : Fn) (first cap : Array Value) (w : World), (Instr.makeFunc fn first cap).run Try.prog w = .ok (.func fn first cap) w := fun _ _ _ _ => rfl
  have hlt := h.rd.lt
  have hltx := h.box.lt
  have hsz := h.rd.2.2.1.size
  have hal : Below w.heap.size w (w.alloc (.cells #[.bool false] 4)) := (Below.refl _ _).alloc (Nat.le_refl _) _
  have hq : Box (w.alloc (.cells #[.bool false] 4)) w.heap.size 4 (.bool false) := World.alloc_heap_new _ _
  have hr' : Box (w.alloc (.cells #[.bool false] 4)) r 72 (.pointer (some ⟨g, 0, none⟩)) := (hal.block r hr.lt).trans hr
  have hbx' : Box (w.alloc (.cells #[.bool false] 4)) bx 22 v := (hal.block bx hbx.lt).trans hbx
  have h' := h.below hal
  have h'' : RdX w0 (w.alloc (.cells #[.bool false] 4)) B g x v xs 0 z0 [] (w.alloc (.cells #[.bool false] 4)) := ⟨h'.rd, h'.box, h'.own, KeepR.refl _ _ _⟩
  have CALL := (show Hid (Calls Try.prog 60 #[.pointer (some ⟨r, 0, none⟩), .pointer (some ⟨bx, 0, none⟩), .pointer (some ⟨x, 0, none⟩)] (w.alloc (.cells #[.bool false] 4)) _) from closeRecs_any h'' hb hn hr' hbx' h1 h2 h3 h4 h5 h6 h7 (by rw [World.size_alloc]; omega))
  clear h hr hbx hal h' h'' hr' hbx' hb
  go_enter_defers Try.func56, Try.ntmps56
  go_wp2_with fail
  go_at_call 60
  refine CALL.out.mono ?_
  rintro e w2 ⟨hor, kp2, b2⟩
  have hq2 : Box w2 w.heap.size 4 (.bool false) := kp2.2 _ _ _ _ hq (by omega) (by omega) (by decide)
  obtain ⟨cq, fq⟩ := hq2.cell
  have hs2 := kp2.1
  rcases hor with ⟨l, i, z, hy, rfl, r2⟩ | ⟨hy, t, s, rfl⟩
  · have q3 := hq2.set (.bool true)
    have b3 := b2.setCell (p := ⟨w.heap.size, 0, none⟩) hsz (.bool true)
    have x3 : Box (w2.setCell ⟨w.heap.size, 0, none⟩ (.bool true)) x 32 z := (Below.heap_setCell w2 ⟨w.heap.size, 0, none⟩ (.bool true) x (by show x ≠ w.heap.size; omega)).trans r2.box
    have o3 : OwnRs B (w2.setCell ⟨w.heap.size, 0, none⟩ (.bool true)) z l := rk_set r2.own hq2 (by decide)
    have P3 := (show Hid (_ ∧ _ ∧ _ ∧ _ ∧ _) from ⟨hy, q3, b3, x3, o3⟩)
    clear hy q3 b3 x3 o3 r2
    go_wp2
    refine leaves_cons (f := 79) (args := #[.pointer (some ⟨w.heap.size, 0, none⟩)]) (by simp) (by simp [go_sem]) ?_
    obtain ⟨hy, q3, b3, x3, o3⟩ := P3.out
    refine (catch_idle _ true _ q3.cell.1 q3.cell.2).mono ?_
    rintro e u' w3 ⟨rfl, rfl, rfl⟩
    have q4 := q3.set (.bool true)
    have b4 := b3.setCell (p := ⟨w.heap.size, 0, none⟩) hsz (.bool true)
    have x4 : Box ((w2.setCell ⟨w.heap.size, 0, none⟩ (.bool true)).setCell ⟨w.heap.size, 0, none⟩ (.bool true)) x 32 z := (Below.heap_setCell (w2.setCell ⟨w.heap.size, 0, none⟩ (.bool true)) ⟨w.heap.size, 0, none⟩ (.bool true) x (by show x ≠ w.heap.size; omega)).trans x3
    have o4 : OwnRs B ((w2.setCell ⟨w.heap.size, 0, none⟩ (.bool true)).setCell ⟨w.heap.size, 0, none⟩ (.bool true)) z l := rk_set o3 q3 (by decide)
    have c4 := q4.cell.1
    simp [Leaves, settle, results, Try.results56, go_sem, c4]
    exact ⟨⟨l, hy, z, x4, o4⟩, b4⟩
  · have q3 := hq2.set (.bool false)
    have b3 := b2.setCell (p := ⟨w.heap.size, 0, none⟩) hsz (.bool false)
    have P3 := (show Hid (_ ∧ _ ∧ _) from ⟨hy, q3, b3⟩)
    clear hy q3 b3
    go_wp2
    refine leaves_cons (f := 79) (args := #[.pointer (some ⟨w.heap.size, 0, none⟩)]) (by simp) (by simp [go_sem]) ?_
    refine (catch_bad _ false t s [] _ cq fq).mono ?_
    rintro e u' w3 ⟨rfl, rfl, rfl⟩
    obtain ⟨hy, q3, b3⟩ := P3.out
    have c4 := q3.cell.1
    simp [Leaves, settle, results, Try.results56, go_sem, c4]
    exact ⟨hy, b3⟩

set_option maxHeartbeats 400000 in
set_option maxRecDepth 100000 in
theorem irecords_any {v : Value} {xs : List Int} {w : World} (h : Sl .u8 w v xs) (hb : ∀ x ∈ xs, 0 ≤ x ∧ x ≤ 255) (hn : xs.length ≤ 1048576) :
    Calls Try.prog 18 #[v] w fun e w' => ∃ v', e = .returned (.tuple #[v', .bool (recsR xs).2]) ∧ OwnRs w.heap.size w' v' (recsR xs).1 ∧ Below w.heap.size w w' := by
  have hmf : ∀ (fn : Fn) (first cap : Array Value) (w : World), (Instr.makeFunc fn first cap).run Try.prog w = .ok (.func fn first cap) w := fun _ _ _ _ => rfl
  have h0 := h
  obtain ⟨a, ca, rfl, _, _, _, ha⟩ := h
  clear ha
  obtain ⟨v, hv⟩ : ∃ v, v = Value.slice a xs.length ca := ⟨_, rfl⟩
  rw [← hv] at h0
  obtain ⟨W1, e1⟩ : ∃ y, y = w.alloc (.cells #[v] 22) := ⟨_, rfl⟩
  obtain ⟨W2, e2⟩ : ∃ y, y = W1.alloc (.cells #[v, .int .i64 0] 74) := ⟨_, rfl⟩
  obtain ⟨W3, e3⟩ : ∃ y, y = W2.alloc (.cells #[] 25) := ⟨_, rfl⟩
  obtain ⟨W4, e4⟩ : ∃ y, y = W3.alloc (.cells #[.pointer (some ⟨w.heap.size + 1, 0, none⟩)] 72) := ⟨_, rfl⟩
  obtain ⟨W, e5⟩ : ∃ y, y = W4.alloc (.cells #[.slice (some ⟨w.heap.size + 1 + 1, 0, none⟩) 0 0] 32) := ⟨_, rfl⟩
  have s1 : W1.heap.size = w.heap.size + 1 := by rw [e1, World.size_alloc]
  have s2 : W2.heap.size = w.heap.size + 1 + 1 := by rw [e2, World.size_alloc, s1]
  have s3 : W3.heap.size = w.heap.size + 1 + 1 + 1 := by rw [e3, World.size_alloc, s2]
  have s4 : W4.heap.size = w.heap.size + 1 + 1 + 1 + 1 := by rw [e4, World.size_alloc, s3]
  have s5 : W.heap.size = w.heap.size + 1 + 1 + 1 + 1 + 1 := by rw [e5, World.size_alloc, s4]
  have k1 : Below w.heap.size w W1 := by rw [e1]; exact (Below.refl _ _).alloc (Nat.le_refl _) _
  have k2 : Below W1.heap.size W1 W2 := by rw [e2]; exact (Below.refl _ _).alloc (Nat.le_refl _) _
  have k3 : Below W2.heap.size W2 W3 := by rw [e3]; exact (Below.refl _ _).alloc (Nat.le_refl _) _
  have k4 : Below W3.heap.size W3 W4 := by rw [e4]; exact (Below.refl _ _).alloc (Nat.le_refl _) _
  have k5 : Below W4.heap.size W4 W := by rw [e5]; exact (Below.refl _ _).alloc (Nat.le_refl _) _
  have k35 : Below W3.heap.size W3 W := k4.trans (k5.mono k4.size)
  have k25 : Below W2.heap.size W2 W := k3.trans (k35.mono k3.size)
  have k15 : Below W1.heap.size W1 W := k2.trans (k25.mono k2.size)
  have k05 : Below w.heap.size w W := k1.trans (k15.mono k1.size)
  have x1 : Box W w.heap.size 22 v := (k15.block _ (by omega)).trans (by rw [e1]; exact World.alloc_heap_new _ _)
  have x2 : W.heap[w.heap.size + 1]? = some (.cells #[v, .int .i64 0] 74 (0, 0)) := (k25.block _ (by omega)).trans (by
    have := World.alloc_heap_new W1 (.cells #[v, .int .i64 0] 74)
    rw [s1, ← e2] at this; exact this)
  have x4 : Box W (w.heap.size + 1 + 1 + 1) 72 (.pointer (some ⟨w.heap.size + 1, 0, none⟩)) := (k5.block _ (by omega)).trans (by
    have := World.alloc_heap_new W3 (.cells #[.pointer (some ⟨w.heap.size + 1, 0, none⟩)] 72)
    rw [s3, ← e4] at this; exact this)
  have x5 : Box W (w.heap.size + 1 + 1 + 1 + 1) 32 (.slice (some ⟨w.heap.size + 1 + 1, 0, none⟩) 0 0) := by
    have := World.alloc_heap_new W4 (.cells #[.slice (some ⟨w.heap.size + 1 + 1, 0, none⟩) 0 0] 32)
    rw [s4, ← e5] at this; exact this
  have o3 : OwnRs w.heap.size W3 (.slice (some ⟨w.heap.size + 1 + 1, 0, none⟩) 0 0) [] := by
    have := World.ownsRow_lit (base := w.heap.size) (e := 25) (size := 3) W2 #[] 0 (by omega) (Nat.zero_le _) rfl
    rw [s2, ← e3] at this; exact this
  have rx : RdX w W w.heap.size (w.heap.size + 1) (w.heap.size + 1 + 1 + 1 + 1) v xs 0 (.slice (some ⟨w.heap.size + 1 + 1, 0, none⟩) 0 0) [] W :=
    ⟨⟨Nat.le_succ _, h0, k05, by omega, x2⟩, x5, ownsRow_below o3 k35, KeepR.refl _ _ _⟩
  have CALL := (show Hid (Calls Try.prog 56 #[.func (.func 60) #[] #[.pointer (some ⟨w.heap.size + 1 + 1 + 1, 0, none⟩), .pointer (some ⟨w.heap.size, 0, none⟩), .pointer (some ⟨w.heap.size + 1 + 1 + 1 + 1, 0, none⟩)]] W _) from wellRecs_any rx hb hn x4 x1 (by omega) (by omega) (by omega) (by omega) (by omega) (by omega) (Nat.le_refl _) (by omega))
  rw [e4, e3, e2, e1, hv] at e5
  clear rx o3 x1 x2 x4 x5 k1 k2 k3 k4 k5 k35 k25 k15 k05 s1 s2 s3 s4 s5 e1 e2 e3 e4 h0 hb hv
  go_enter Try.func18, Try.ntmps18
  go_wp2_with fail
  go_at_call 56
  rw [← e5]
  clear e5
  refine CALL.out.mono ?_
  rintro e w2 ⟨hor, b2⟩
  have B2 := (show Hid (Below w.heap.size w w2) from b2)
  clear b2 CALL
  rcases hor with ⟨l, z, hy, rfl, xb, o2⟩ | ⟨hy, rfl⟩
  · have HZ : Hid (recsR xs = (l, true)) := (show recsR xs = (l, true) by rw [recsR, hy])
    have O2 := (show Hid (OwnRs w.heap.size w2 z l) from o2)
    obtain ⟨cx, _⟩ := xb.cell
    clear hy o2 xb
    go_wp2
    go_ret2
    exact ⟨_, by rw [HZ.out]; rfl, by rw [HZ.out]; exact O2.out, B2.out⟩
  · have HZ : Hid (recsR xs = ([], false)) := (show recsR xs = ([], false) by rw [recsR, hy])
    clear hy
    go_wp2
    go_ret2
    exact ⟨_, by rw [HZ.out]; rfl, by rw [HZ.out]; exact ⟨rfl, .inl ⟨rfl, rfl⟩⟩, B2.out⟩
end Go.Proofs.Ytmpgbonolmmcpaa

/- The exact law of Records: the program keeps its contract. -/
namespace Go.Proofs.Ytmpgbonolmmcpaa
open Go.RowKit
set_option maxRecDepth 100000
set_option linter.unusedVariables false

theorem fnExactRecords_walk {v : Value} {xs : List Int} (w : World) (h : Sl .u8 w v xs) (hwf : ∀ n ∈ xs, (Lit.int .u8 n).wf = true) :
    Calls Try.prog 8 #[v] w fun e w' => e = .returned (.bool true) ∧ Below w.heap.size w w' :=
  fnExactRecords_of (fun v xs w h1 h2 h3 => irecords_any h1 h2 h3) w h hwf
end Go.Proofs.Ytmpgbonolmmcpaa
