/- The program's Records: its closure, which reads one record behind the other. -/
import Derived.Test.YtmpgbonolmmcpaaV31
import Derived.Test.YtmpgbonolmmcpaaV17
import Derived.Test.YtmpgbonolmmcpaaV29
import Derived.Test.YtmpgbonolmmcpaaV22
namespace Go.Proofs.Ytmpgbonolmmcpaa
open Go.RowKit
set_option maxRecDepth 100000
set_option linter.unusedVariables false

/-- What is turned: the blocks g and x, and rows of records. -/
def KeepR (g x : Nat) (w w' : World) : Prop := w.heap.size ≤ w'.heap.size ∧ ∀ j cs t fr, w.heap[j]? = some (.cells cs t fr) → j ≠ g → j ≠ x → t ≠ 25 → w'.heap[j]? = some (.cells cs t fr)
theorem KeepR.refl (g x : Nat) (w : World) : KeepR g x w w := ⟨Nat.le_refl _, fun _ _ _ _ h _ _ _ => h⟩
theorem KeepR.grown {g x : Nat} {w a b : World} (h : KeepR g x w a) (k : a.grownBy b (some g)) : KeepR g x w b :=
  ⟨Nat.le_trans h.1 k.size, fun j cs t fr e n1 n2 n3 => (k.block j (lt_of_block (h.2 j cs t fr e n1 n2 n3)) (fun e => n1 (by injection e))).trans (h.2 j cs t fr e n1 n2 n3)⟩
theorem KeepR.below {g x : Nat} {w a b : World} (h : KeepR g x w a) (k : Below a.heap.size a b) : KeepR g x w b :=
  ⟨Nat.le_trans h.1 k.size, fun j cs t fr e n1 n2 n3 => (k.block j (lt_of_block (h.2 j cs t fr e n1 n2 n3))).trans (h.2 j cs t fr e n1 n2 n3)⟩
theorem KeepR.row {g x : Nat} {w a b : World} (h : KeepR g x w a) {B size n : Nat} {v : Value} {xs : List Value} (o : a.ownsRow B 25 size v n xs) (k : a.grownBy b v.ownBlock) : KeepR g x w b :=
  ⟨Nat.le_trans h.1 k.size, fun j cs t fr e n1 n2 n3 => rk_keep o k (h.2 j cs t fr e n1 n2 n3) n3⟩
theorem KeepR.set {g x : Nat} {w a : World} (h : KeepR g x w a) (k : Nat) (u : Value) : KeepR g x w (a.setCell ⟨x, k, none⟩ u) :=
  ⟨by rw [World.size_setCell]; exact h.1, fun j cs t fr e n1 n2 n3 => (Below.heap_setCell _ _ _ j n2).trans (h.2 j cs t fr e n1 n2 n3)⟩
/-- The place at which the reader in block g stands. -/
def placeOf (w : World) (g : Nat) : Nat := match w.cell? ⟨g, 1, none⟩ with
  | some v => (intOf v).toNat
  | none => 0
theorem placeOf_rdr {w0 : World} {g : Nat} {v : Value} {xs : List Int} {i : Nat} {w : World} (h : Rdr w0 g v xs i w) : placeOf w g = i := by
  unfold placeOf
  rw [h.cells.2.1]
  simp [intOf]
/-- The reader at a place, and what was read so far in the box x. -/
structure RdX (w0 w : World) (B g x : Nat) (v : Value) (xs : List Int) (i : Int) (z : Value) (pre : List PRec) (W : World) : Prop where
  rd : Rdr w0 g v xs i W
  box : Box W x 32 z
  own : OwnRs B W z pre
  keep : KeepR g x w W
theorem RdX.below {w0 w : World} {B g x : Nat} {v : Value} {xs : List Int} {i : Int} {z : Value} {pre : List PRec} {W W' : World} (h : RdX w0 w B g x v xs i z pre W) (b : Below W.heap.size W W') : RdX w0 w B g x v xs i z pre W' :=
  ⟨h.rd.below b, (b.block _ h.box.lt).trans h.box, ownsRow_below h.own b, h.keep.below b⟩
theorem RdX.call {w0 w : World} {B g x : Nat} {v : Value} {xs : List Int} {i j : Int} {z : Value} {pre : List PRec} {W W' : World} (h : RdX w0 w B g x v xs i z pre W) (hx : x ≠ g) (r : Rdr w0 g v xs j W') (k : W.grownBy W' (some g)) : RdX w0 w B g x v xs j z pre W' :=
  ⟨r, h.box.grown k (fun e => hx (by injection e with e; exact e.symm)), rk_type h.own k (fun q e => by cases e; exact ⟨_, _, _, h.rd.2.2.2.2, by decide⟩), h.keep.grown k⟩
/-- A record is put behind what was read. -/
theorem RdX.app {w0 w : World} {B g x : Nat} {v : Value} {xs : List Int} {i : Int} {z z' : Value} {pre pre' : List PRec} {W W' : World} (h : RdX w0 w B g x v xs i z pre W) (hx : x ≠ g) (h0 : w0.heap.size ≤ x) (hB : w0.heap.size ≤ B) (o : OwnRs B W' z' pre') (k : W.grownBy W' z.ownBlock) : RdX w0 w B g x v xs i z' pre' (W'.setCell ⟨x, 0, none⟩ z') := by
  have rb : W'.heap[g]? = some (.cells #[v, .int .i64 i] 74 (0, 0)) := rk_keep h.own k h.rd.2.2.2.2 (by decide)
  have xb : Box W' x 32 z := rk_keep h.own k h.box (by decide)
  have rd' : Rdr w0 g v xs i W' := ⟨h.rd.1, h.rd.2.1, h.rd.2.2.1.grown k h.rd.2.2.1.size (fun r e => Nat.le_trans hB (World.ownsRow.lt h.own r e).1), h.rd.2.2.2.1, rb⟩
  refine ⟨rd'.kept (grown_setCell W' x 0 z') (fun e => hx (by injection e)) (fun k hk => by injection hk with hk; omega), xb.set z', rk_set o xb (by decide), (h.keep.row h.own k).set 0 z'⟩

set_option maxHeartbeats 1000000 in
set_option maxRecDepth 100000 in
theorem closeRecs_any {w0 : World} {B g r bx x : Nat} {v z0 : Value} {xs : List Int} {w : World} (h : RdX w0 w B g x v xs 0 z0 [] w) (hb : ∀ x ∈ xs, 0 ≤ x ∧ x ≤ 255) (hn : xs.length ≤ 1048576) (hr : Box w r 72 (.pointer (some ⟨g, 0, none⟩))) (hbx : Box w bx 22 v)
    (h1 : r ≠ g) (h2 : x ≠ g) (h3 : r ≠ x) (h4 : w0.heap.size ≤ x) (h5 : bx ≠ g) (h6 : bx ≠ x) (h7 : w0.heap.size ≤ B) (h8 : B ≤ w.heap.size) :
    Calls Try.prog 60 #[.pointer (some ⟨r, 0, none⟩), .pointer (some ⟨bx, 0, none⟩), .pointer (some ⟨x, 0, none⟩)] w fun e w' =>
      ((∃ l i z, recsF xs (xs.length + 1) 0 = some l ∧ e = .returned (.tuple #[]) ∧ RdX w0 w B g x v xs i z l w') ∨ (recsF xs (xs.length + 1) 0 = none ∧ Bad e)) ∧ KeepR g x w w' ∧ Below w0.heap.size w0 w' := by
  have HB := (show Hid (∀ x ∈ xs, 0 ≤ x ∧ x ≤ 255) from hb)
  have HR := (show Hid (Box w r 72 (.pointer (some ⟨g, 0, none⟩))) from hr)
  have HX := (show Hid (Box w bx 22 v) from hbx)
  have BX := (show Hid (∀ W, KeepR g x w W → W.cell? ⟨r, 0, none⟩ = some (.pointer (some ⟨g, 0, none⟩)) ∧ W.cell? ⟨bx, 0, none⟩ = some v) from fun W k => ⟨(rk_one (k.2 r _ _ _ HR.out h1 h3 (by decide))).1, (rk_one (k.2 bx _ _ _ HX.out h5 h6 (by decide))).1⟩)
  obtain ⟨va, vc, hv, _⟩ := h.rd.sl
  obtain ⟨i0, hi, hz0, hz1, hz2⟩ := info_parts Try.infoRec
  clear hb hr hbx
  subst hv
  go_enter Try.func60, Try.ntmps60
  go_wp2_with fail
  go_loopw [] (fun wr => ∃ (i f : Nat) (pre : List PRec) (z : Value), i ≤ xs.length ∧ RdX w0 w B g x (.slice va xs.length vc) xs i z pre wr ∧ Hid ((recsF xs f i).map (pre ++ ·) = recsF xs (xs.length + 1) 0) ∧ xs.length < f + i ∧ pre.length ≤ i) (fun wr => xs.length - placeOf wr g)
  case atStart => exact ⟨0, xs.length + 1, [], z0, Nat.zero_le _, h, (show _ = _ by cases recsF xs (xs.length + 1) 0 <;> rfl), by omega, by simp⟩
  case round =>
    obtain ⟨i, f, pre, z, hi1, rx, hF, hf, hp⟩ := hrel
    obtain ⟨za, zn, zc, ez⟩ : ∃ a n c, z = .slice a n c := by
      rcases rx.own.2 with ⟨e, _⟩ | ⟨g, cap, cur, e, _⟩ <;> exact ⟨_, _, _, e⟩
    subst ez
    have RX := (show Hid (RdX w0 w B g x (.slice va xs.length vc) xs i (.slice za zn zc) pre wr) from rx)
    obtain ⟨cr, cb⟩ := BX.out wr rx.keep
    have c1 := rx.rd.cells.2.1
    have cx := rx.box.cell.1
    have hpl : placeOf wr g = i := placeOf_rdr rx.rd
    have HPL := (show Hid (placeOf wr g = i) from hpl)
    clear rx hpl h
    by_cases hlt : i < xs.length
    · have hlt' : (i : Int) < (xs.length : Int) := by omega
      obtain ⟨f', rfl⟩ : ∃ f', f = f' + 1 := ⟨f - 1, by omega⟩
      have HG := (show Hid ((readR xs (i : Int)).2.2 = true → recsF xs (f' + 1) i = (recsF xs f' (readR xs (i : Int)).2.1.toNat).map ((readR xs (i : Int)).1 :: ·)) from fun e => recsF_on hlt e)
      have HN : Hid ((readR xs (i : Int)).2.2 = false → recsF xs (xs.length + 1) 0 = none) := (show (readR xs (i : Int)).2.2 = false → recsF xs (xs.length + 1) 0 = none from fun e => by
        rw [← hF.out, recsF_bad hlt e]; rfl)
      go_wp2
      go_region_held (fun w' => w'.cell? ⟨r, 0, none⟩ = some (.pointer (some ⟨g, 0, none⟩)) ∧ w'.cell? ⟨g, 1, none⟩ = some (.int .i64 (i : Int)) ∧ w'.cell? ⟨bx, 0, none⟩ = some (.slice va xs.length vc)) (go_keep) (fail)
      have CR := (show Hid (∀ W, Below wr.heap.size wr W → Calls Try.prog 58 #[.pointer (some ⟨g, 0, none⟩)] W fun e w' => ((∃ k u b j, readR xs (i : Int) = (⟨k, u, b⟩, j, true) ∧ e = .returned (.agg #[.int .i64 k, .string u, .string b]) ∧ Rdr w0 g (.slice va xs.length vc) xs j w') ∨ ((readR xs (i : Int)).2.2 = false ∧ Bad e ∧ ∃ j, Rdr w0 g (.slice va xs.length vc) xs j w')) ∧ W.grownBy w' (some g)) from fun W b => by
        refine Calls.mono (irecord_any (RX.out.rd.below b) HB.out) ?_
        rintro e w' ⟨⟨⟨k, u, b⟩, j, hy, rfl, r3⟩ | hno, g3⟩
        · exact ⟨.inl ⟨k, u, b, j, hy, rfl, r3⟩, g3⟩
        · exact ⟨.inr hno, g3⟩)
      have HX2 := (show Hid (x ≠ g) from h2)
      have RD := (show Hid (RdX w0 w B g x (.slice va xs.length vc) xs i (.slice za zn zc) pre wr.drew.drew) from RX.out.below (below_drewN 2))
      have HH := (show Hid (w0.heap.size ≤ x ∧ w0.heap.size ≤ B ∧ B ≤ w.heap.size ∧ pre.length ≤ 1048576) from ⟨h4, h7, h8, by omega⟩)
      go_wp2_with fail
      go_region_law (first
        | (go_simp
           go_at_call 58
           with_reducible refine Calls.mono (CR.out wr.drew.drew (below_drewN 2)) ?_
           rintro e w3 ⟨⟨k, u, b, j, hy, rfl, r3⟩ | ⟨hy, ⟨t, s, rfl⟩, j, r3⟩, g3⟩
           rotate_left
           · have rx3 := RD.out.call HX2.out r3 g3
             exact ⟨rfl, .inr ⟨HN.out hy, _, _, rfl⟩, rx3.keep, rx3.rd.2.2.1⟩
           have R3 := (show Hid (RdX w0 w B g x (.slice va xs.length vc) xs j (.slice za zn zc) pre w3) from RD.out.call HX2.out r3 g3)
           have Y3 := (show Hid (readR xs (i : Int) = (⟨k, u, b⟩, j, true)) from hy)
           have cx3 := R3.out.box.cell.1
           have ba : Below w3.heap.size w3 (w3.alloc (.cells #[.int .i64 k, .string u, .string b] 25)) := (Below.refl _ _).alloc (Nat.le_refl _) _
           have R4 := (show Hid (RdX w0 w B g x (.slice va xs.length vc) xs j (.slice za zn zc) pre (w3.alloc (.cells #[.int .i64 k, .string u, .string b] 25))) from R3.out.below ba)
           have cx4 := R4.out.box.cell.1
           have SV := (show Hid (Sv 3 (w3.alloc (.cells #[.int .i64 k, .string u, .string b] 25)) (.slice (some ⟨w3.heap.size, 0, none⟩) 1 1) (recCells [⟨k, u, b⟩])) from sv_oneRec (r := ⟨k, u, b⟩) (World.alloc_heap_new _ _))
           clear hy r3 g3 ba)
        | (with_reducible refine step_appS (w := w3.alloc (.cells #[.int .i64 k, .string u, .string b] 25)) ?_ (.tmp 10) (.tmp 13) 32 ?_ B 25 i0 _ 3 40 ?_ hi hz0 hz1 hz2 ?_ ?_ (.slice za zn zc) pre.length (recCells pre) ?_ R4.out.own (.slice (some ⟨w3.heap.size, 0, none⟩) 1 1) 1 (recCells [⟨k, u, b⟩]) ?_ SV.out ?_ (rec_oneCell _) ?_ ?_ ?_ ?_
           · rfl
           · rfl
           · exact Try.underlying32
           · rfl
           · decide
           · simp [Act.eval]
           · simp [Act.eval]
           · rfl
           · (have := HH.out.2.2.2; unfold maxLen; omega)
           · (have := HH.out.2.2.2; omega)
           · exact Nat.le_trans HH.out.2.2.1 R4.out.keep.1
           intro v5 w5 o5 g5
           obtain ⟨ya, yn, yc, e5⟩ := rk_slice o5
           subst e5
           have R5 := (show Hid (RdX w0 w B g x (.slice va xs.length vc) xs j (.slice ya yn yc) (pre ++ [⟨k, u, b⟩]) (w5.setCell ⟨x, 0, none⟩ (.slice ya yn yc))) from R4.out.app HX2.out HH.out.1 HH.out.2.1 (by show World.ownsRow _ _ _ _ _ _ _; rw [List.length_append, recCells_app]; exact o5) g5)
           obtain ⟨cx5, fx5⟩ := (show Box w5 x 32 (.slice za zn zc) from rk_keep R4.out.own g5 R4.out.box (by decide)).cell
           clear o5 g5))
      all_goals
        obtain ⟨j0, j1, j2, j3, j4, j5⟩ := readR_next Y3.out HB.out
        obtain ⟨jn, rfl⟩ := Int.eq_ofNat_of_zero_le (show 0 ≤ j by omega)
        have HF : Hid ((recsF xs f' jn).map ((pre ++ [⟨k, u, b⟩]) ++ ·) = recsF xs (xs.length + 1) 0) := (show _ = _ by
          rw [← hF.out, HG.out (by rw [Y3.out]), Y3.out]
          simp only [Int.toNat_natCast]
          cases recsF xs f' jn <;> simp)
        have HP := (show Hid (placeOf (w5.setCell ⟨x, 0, none⟩ (.slice ya yn yc)) g = jn) from placeOf_rdr R5.out.rd)
        go_wp2
        go_roundw
        case rel => exact ⟨jn, f', pre ++ [⟨k, u, b⟩], _, by omega, R5.out, HF, by omega, by rw [List.length_append, List.length_singleton]; omega⟩
        case measure => rw [HP.out, HPL.out]; omega
    · have hn' : ¬ ((i : Int) < (xs.length : Int)) := by omega
      obtain ⟨f', rfl⟩ : ∃ f', f = f' + 1 := ⟨f - 1, by omega⟩
      have HZ : Hid (recsF xs (xs.length + 1) 0 = some pre) := (show recsF xs (xs.length + 1) 0 = some pre by
        rw [← hF.out, recsF_end hlt]; simp)
      have RD := (show Hid (RdX w0 w B g x (.slice va xs.length vc) xs i (.slice za zn zc) pre wr.drew) from RX.out.below (below_drewN 1))
      go_wp2
      go_region_held (fun w' => w'.cell? ⟨r, 0, none⟩ = some (.pointer (some ⟨g, 0, none⟩)) ∧ w'.cell? ⟨g, 1, none⟩ = some (.int .i64 (i : Int)) ∧ w'.cell? ⟨bx, 0, none⟩ = some (.slice va xs.length vc)) (go_keep) (fail)
      go_wp2
      go_end0
      exact ⟨.inl ⟨pre, _, _, HZ.out, rfl, RD.out⟩, RD.out.keep, RD.out.rd.2.2.1⟩
end Go.Proofs.Ytmpgbonolmmcpaa

/- The program's Records: readWell round its closure, the face. -/
namespace Go.Proofs.Ytmpgbonolmmcpaa
open Go.RowKit
set_option maxRecDepth 100000
set_option linter.unusedVariables false

set_option maxHeartbeats 400000 in
set_option maxRecDepth 100000 in
theorem wellRecs_any {w0 : World} {B g r bx x : Nat} {v z0 : Value} {xs : List Int} {w : World} (h : RdX w0 w B g x v xs 0 z0 [] w) (hb : ∀ x ∈ xs, 0 ≤ x ∧ x ≤ 255) (hn : xs.length ≤ 1048576) (hr : Box w r 72 (.pointer (some ⟨g, 0, none⟩))) (hbx : Box w bx 22 v)
    (h1 : r ≠ g) (h2 : x ≠ g) (h3 : r ≠ x) (h4 : w0.heap.size ≤ x) (h5 : bx ≠ g) (h6 : bx ≠ x) (h7 : w0.heap.size ≤ B) (h8 : B ≤ w.heap.size) :
    Calls Try.prog 56 #[.func (.func 60) #[] #[.pointer (some ⟨r, 0, none⟩), .pointer (some ⟨bx, 0, none⟩), .pointer (some ⟨x, 0, none⟩)]] w fun e w' =>
      ((∃ l z, recsF xs (xs.length + 1) 0 = some l ∧ e = .returned (.bool true) ∧ Box w' x 32 z ∧ OwnRs B w' z l) ∨ (recsF xs (xs.length + 1) 0 = none ∧ e = .returned (.bool false))) ∧ Below w0.heap.size w0 w' := by
  have hmf : ∀ (fn : Fn) (first cap : Array Value) (w : World), (Instr.makeFunc fn first cap).run Try.prog w = .ok (.func fn first cap) w := fun _ _ _ _ => rfl
  have hlt := h.rd.lt
  have hltx := h.box.lt
  have hsz := h.rd.2.2.1.size
  have hal : Below w.heap.size w (w.alloc (.cells #[.bool false] 4)) := (Below.refl _ _).alloc (Nat.le_refl _) _
  have hq : Box (w.alloc (.cells #[.bool false] 4)) w.heap.size 4 (.bool false) := World.alloc_heap_new _ _
  have hr' : Box (w.alloc (.cells #[.bool false] 4)) r 72 (.pointer (some ⟨g, 0, none⟩)) := (hal.block r hr.lt).trans hr
  have hbx' : Box (w.alloc (.cells #[.bool false] 4)) bx 22 v := (hal.block bx hbx.lt).trans hbx
  have h' := h.below hal
  have h'' : RdX w0 (w.alloc (.cells #[.bool false] 4)) B g x v xs 0 z0 [] (w.alloc (.cells #[.bool false] 4)) := ⟨h'.rd, h'.box, h'.own, KeepR.refl _ _ _⟩
  have CALL := (show Hid (Calls Try.prog 60 #[.pointer (some ⟨r, 0, none⟩), .pointer (some ⟨bx, 0, none⟩), .pointer (some ⟨x, 0, none⟩)] (w.alloc (.cells #[.bool false] 4)) _) from closeRecs_any h'' hb hn hr' hbx' h1 h2 h3 h4 h5 h6 h7 (by rw [World.size_alloc]; omega))
  clear h hr hbx hal h' h'' hr' hbx' hb
  go_enter_defers Try.func56, Try.ntmps56
  go_wp2_with fail
  go_at_call 60
  refine CALL.out.mono ?_
  rintro e w2 ⟨hor, kp2, b2⟩
  have hq2 : Box w2 w.heap.size 4 (.bool false) := kp2.2 _ _ _ _ hq (by omega) (by omega) (by decide)
  obtain ⟨cq, fq⟩ := hq2.cell
  have hs2 := kp2.1
  rcases hor with ⟨l, i, z, hy, rfl, r2⟩ | ⟨hy, t, s, rfl⟩
  · have q3 := hq2.set (.bool true)
    have b3 := b2.setCell (p := ⟨w.heap.size, 0, none⟩) hsz (.bool true)
    have x3 : Box (w2.setCell ⟨w.heap.size, 0, none⟩ (.bool true)) x 32 z := (Below.heap_setCell w2 ⟨w.heap.size, 0, none⟩ (.bool true) x (by show x ≠ w.heap.size; omega)).trans r2.box
    have o3 : OwnRs B (w2.setCell ⟨w.heap.size, 0, none⟩ (.bool true)) z l := rk_set r2.own hq2 (by decide)
    have P3 := (show Hid (_ ∧ _ ∧ _ ∧ _ ∧ _) from ⟨hy, q3, b3, x3, o3⟩)
    clear hy q3 b3 x3 o3 r2
    go_wp2
    refine leaves_cons (f := 79) (args := #[.pointer (some ⟨w.heap.size, 0, none⟩)]) (by simp) (by simp [go_sem]) ?_
    obtain ⟨hy, q3, b3, x3, o3⟩ := P3.out
    refine (catch_idle _ true _ q3.cell.1 q3.cell.2).mono ?_
    rintro e u' w3 ⟨rfl, rfl, rfl⟩
    have q4 := q3.set (.bool true)
    have b4 := b3.setCell (p := ⟨w.heap.size, 0, none⟩) hsz (.bool true)
    have x4 : Box ((w2.setCell ⟨w.heap.size, 0, none⟩ (.bool true)).setCell ⟨w.heap.size, 0, none⟩ (.bool true)) x 32 z := (Below.heap_setCell (w2.setCell ⟨w.heap.size, 0, none⟩ (.bool true)) ⟨w.heap.size, 0, none⟩ (.bool true) x (by show x ≠ w.heap.size; omega)).trans x3
    have o4 : OwnRs B ((w2.setCell ⟨w.heap.size, 0, none⟩ (.bool true)).setCell ⟨w.heap.size, 0, none⟩ (.bool true)) z l := rk_set o3 q3 (by decide)
    have c4 := q4.cell.1
    simp [Leaves, settle, results, Try.results56, go_sem, c4]
    exact ⟨⟨l, hy, z, x4, o4⟩, b4⟩
  · have q3 := hq2.set (.bool false)
    have b3 := b2.setCell (p := ⟨w.heap.size, 0, none⟩) hsz (.bool false)
    have P3 := (show Hid (_ ∧ _ ∧ _) from ⟨hy, q3, b3⟩)
    clear hy q3 b3
    go_wp2
    refine leaves_cons (f := 79) (args := #[.pointer (some ⟨w.heap.size, 0, none⟩)]) (by simp) (by simp [go_sem]) ?_
    refine (catch_bad _ false t s [] _ cq fq).mono ?_
    rintro e u' w3 ⟨rfl, rfl, rfl⟩
    obtain ⟨hy, q3, b3⟩ := P3.out
    have c4 := q3.cell.1
    simp [Leaves, settle, results, Try.results56, go_sem, c4]
    exact ⟨hy, b3⟩

set_option maxHeartbeats 400000 in
set_option maxRecDepth 100000 in
theorem irecords_any {v : Value} {xs : List Int} {w : World} (h : Sl .u8 w v xs) (hb : ∀ x ∈ xs, 0 ≤ x ∧ x ≤ 255) (hn : xs.length ≤ 1048576) :
    Calls Try.prog 18 #[v] w fun e w' => ∃ v', e = .returned (.tuple #[v', .bool (recsR xs).2]) ∧ OwnRs w.heap.size w' v' (recsR xs).1 ∧ Below w.heap.size w w' := by
  have hmf : ∀ (fn : Fn) (first cap : Array Value) (w : World), (Instr.makeFunc fn first cap).run Try.prog w = .ok (.func fn first cap) w := fun _ _ _ _ => rfl
  have h0 := h
  obtain ⟨a, ca, rfl, _, _, _, ha⟩ := h
  clear ha
  obtain ⟨v, hv⟩ : ∃ v, v = Value.slice a xs.length ca := ⟨_, rfl⟩
  rw [← hv] at h0
  obtain ⟨W1, e1⟩ : ∃ y, y = w.alloc (.cells #[v] 22) := ⟨_, rfl⟩
  obtain ⟨W2, e2⟩ : ∃ y, y = W1.alloc (.cells #[v, .int .i64 0] 74) := ⟨_, rfl⟩
  obtain ⟨W3, e3⟩ : ∃ y, y = W2.alloc (.cells #[] 25) := ⟨_, rfl⟩
  obtain ⟨W4, e4⟩ : ∃ y, y = W3.alloc (.cells #[.pointer (some ⟨w.heap.size + 1, 0, none⟩)] 72) := ⟨_, rfl⟩
  obtain ⟨W, e5⟩ : ∃ y, y = W4.alloc (.cells #[.slice (some ⟨w.heap.size + 1 + 1, 0, none⟩) 0 0] 32) := ⟨_, rfl⟩
  have s1 : W1.heap.size = w.heap.size + 1 := by rw [e1, World.size_alloc]
  have s2 : W2.heap.size = w.heap.size + 1 + 1 := by rw [e2, World.size_alloc, s1]
  have s3 : W3.heap.size = w.heap.size + 1 + 1 + 1 := by rw [e3, World.size_alloc, s2]
  have s4 : W4.heap.size = w.heap.size + 1 + 1 + 1 + 1 := by rw [e4, World.size_alloc, s3]
  have s5 : W.heap.size = w.heap.size + 1 + 1 + 1 + 1 + 1 := by rw [e5, World.size_alloc, s4]
  have k1 : Below w.heap.size w W1 := by rw [e1]; exact (Below.refl _ _).alloc (Nat.le_refl _) _
  have k2 : Below W1.heap.size W1 W2 := by rw [e2]; exact (Below.refl _ _).alloc (Nat.le_refl _) _
  have k3 : Below W2.heap.size W2 W3 := by rw [e3]; exact (Below.refl _ _).alloc (Nat.le_refl _) _
  have k4 : Below W3.heap.size W3 W4 := by rw [e4]; exact (Below.refl _ _).alloc (Nat.le_refl _) _
  have k5 : Below W4.heap.size W4 W := by rw [e5]; exact (Below.refl _ _).alloc (Nat.le_refl _) _
  have k35 : Below W3.heap.size W3 W := k4.trans (k5.mono k4.size)
  have k25 : Below W2.heap.size W2 W := k3.trans (k35.mono k3.size)
  have k15 : Below W1.heap.size W1 W := k2.trans (k25.mono k2.size)
  have k05 : Below w.heap.size w W := k1.trans (k15.mono k1.size)
  have x1 : Box W w.heap.size 22 v := (k15.block _ (by omega)).trans (by rw [e1]; exact World.alloc_heap_new _ _)
  have x2 : W.heap[w.heap.size + 1]? = some (.cells #[v, .int .i64 0] 74 (0, 0)) := (k25.block _ (by omega)).trans (by
    have := World.alloc_heap_new W1 (.cells #[v, .int .i64 0] 74)
    rw [s1, ← e2] at this; exact this)
  have x4 : Box W (w.heap.size + 1 + 1 + 1) 72 (.pointer (some ⟨w.heap.size + 1, 0, none⟩)) := (k5.block _ (by omega)).trans (by
    have := World.alloc_heap_new W3 (.cells #[.pointer (some ⟨w.heap.size + 1, 0, none⟩)] 72)
    rw [s3, ← e4] at this; exact this)
  have x5 : Box W (w.heap.size + 1 + 1 + 1 + 1) 32 (.slice (some ⟨w.heap.size + 1 + 1, 0, none⟩) 0 0) := by
    have := World.alloc_heap_new W4 (.cells #[.slice (some ⟨w.heap.size + 1 + 1, 0, none⟩) 0 0] 32)
    rw [s4, ← e5] at this; exact this
  have o3 : OwnRs w.heap.size W3 (.slice (some ⟨w.heap.size + 1 + 1, 0, none⟩) 0 0) [] := by
    have := World.ownsRow_lit (base := w.heap.size) (e := 25) (size := 3) W2 #[] 0 (by omega) (Nat.zero_le _) rfl
    rw [s2, ← e3] at this; exact this
  have rx : RdX w W w.heap.size (w.heap.size + 1) (w.heap.size + 1 + 1 + 1 + 1) v xs 0 (.slice (some ⟨w.heap.size + 1 + 1, 0, none⟩) 0 0) [] W :=
    ⟨⟨Nat.le_succ _, h0, k05, by omega, x2⟩, x5, ownsRow_below o3 k35, KeepR.refl _ _ _⟩
  have CALL := (show Hid (Calls Try.prog 56 #[.func (.func 60) #[] #[.pointer (some ⟨w.heap.size + 1 + 1 + 1, 0, none⟩), .pointer (some ⟨w.heap.size, 0, none⟩), .pointer (some ⟨w.heap.size + 1 + 1 + 1 + 1, 0, none⟩)]] W _) from wellRecs_any rx hb hn x4 x1 (by omega) (by omega) (by omega) (by omega) (by omega) (by omega) (Nat.le_refl _) (by omega))
  rw [e4, e3, e2, e1, hv] at e5
  clear rx o3 x1 x2 x4 x5 k1 k2 k3 k4 k5 k35 k25 k15 k05 s1 s2 s3 s4 s5 e1 e2 e3 e4 h0 hb hv
  go_enter Try.func18, Try.ntmps18
  go_wp2_with fail
  go_at_call 56
  rw [← e5]
  clear e5
  refine CALL.out.mono ?_
  rintro e w2 ⟨hor, b2⟩
  have B2 := (show Hid (Below w.heap.size w w2) from b2)
  clear b2 CALL
  rcases hor with ⟨l, z, hy, rfl, xb, o2⟩ | ⟨hy, rfl⟩
  · have HZ : Hid (recsR xs = (l, true)) := (show recsR xs = (l, true) by rw [recsR, hy])
    have O2 := (show Hid (OwnRs w.heap.size w2 z l) from o2)
    obtain ⟨cx, _⟩ := xb.cell
    clear hy o2 xb
    go_wp2
    go_ret2
    exact ⟨_, by rw [HZ.out]; rfl, by rw [HZ.out]; exact O2.out, B2.out⟩
  · have HZ : Hid (recsR xs = ([], false)) := (show recsR xs = ([], false) by rw [recsR, hy])
    clear hy
    go_wp2
    go_ret2
    exact ⟨_, by rw [HZ.out]; rfl, by rw [HZ.out]; exact ⟨rfl, .inl ⟨rfl, rfl⟩⟩, B2.out⟩
end Go.Proofs.Ytmpgbonolmmcpaa

/- The law FnRecords, walked. No condition. -/
namespace Go.Proofs.Ytmpgbonolmmcpaa
open Go.RowKit
set_option maxRecDepth 100000
set_option linter.unusedVariables false

theorem recsR_no {xs : List Int} (h : (recsR xs).2 = false) : (recsR xs).1 = [] := by
  unfold recsR at h ⊢
  split at h
  · cases h
  · rfl
theorem recB_url {r : PRec} (h : recB r = true) : urlB r.url = true := by
  simp only [recB, Bool.and_eq_true] at h
  exact h.1.2
theorem rec_sizes {l : List PRec} {r : PRec} (hr : r ∈ l) (h : recB r = true) : r.url.size ≤ (l.flatMap recL).length ∧ r.body.size ≤ (l.flatMap recL).length := by
  have h1 : (recL r).length ≤ (l.flatMap recL).length := by
    obtain ⟨a, b, rfl⟩ := List.append_of_mem hr
    rw [List.flatMap_append, List.flatMap_cons, List.length_append, List.length_append]
    omega
  have h2 : (recL r).length = (form r.kind).length + ((form r.url.size).length + r.url.size) + (if r.kind = 1 then textForm r.body else []).length := by
    simp [recL, textForm, bs_len]
    omega
  have h3 : r.body.size ≤ (if r.kind = 1 then textForm r.body else []).length := by
    by_cases hk : r.kind = 1
    · rw [if_pos hk]; simp [textForm, bs_len]
    · simp only [recB, Bool.and_eq_true, Bool.or_eq_true, decide_eq_true_eq, Bool.not_eq_true', Bool.and_eq_false_iff, decide_eq_false_iff_not, Decidable.not_not, ne_eq] at h
      have hb : r.body = emptyS := by
        rcases h.2 with h' | h'
        · rcases h.1.1 with q | q
          · exact absurd q hk
          · exact absurd q h'
        · exact h'
      rw [hb]
      exact Nat.le_trans (by decide) (Nat.zero_le _)
  omega
theorem flat_take {l : List PRec} {k : Nat} : ((l.take k).flatMap recL).length ≤ (l.flatMap recL).length := by
  conv => rhs; rw [← List.take_append_drop k l, List.flatMap_append, List.length_append]
  omega
theorem rec_neq (a : Int) (b c : ByteArray) (w : World) : (binOp .neq 25 (.agg #[.int .i64 a, .string b, .string c]) (.agg #[.int .i64 a, .string b, .string c])).run Try.prog w = .ok (.bool false) w := by
  have hu := Try.underlying25
  rw [run_neq_struct, show (10000 : Nat) = 9999 + 1 from rfl, run_equalIn_agg w 9999 25 _ _ (by kernel_rfl) (by kernel_rfl)]
  simp only [Program.fieldsOf, hu]
  have h1 := fun (x y : Int) (w : World) => run_equalIn_int (P := Try.prog) w 9998 3 .i64 .i64 x y Try.underlying3
  have h2 := fun (x y : ByteArray) (w : World) => run_equalIn_string (P := Try.prog) w 9998 9 x y Try.underlying9
  have g3 := Try.isAgg3
  have g9 := Try.isAgg9
  simp [Op.eqFields, part, h1, h2, g3, g9, Result.andThen]

set_option maxHeartbeats 4000000 in
set_option maxRecDepth 100000 in
theorem fnRecords_walk {v : Value} {xs : List Int} (w : World) (h : Sl .u8 w v xs) (hf : ∀ n ∈ xs, (Lit.int .u8 n).wf = true) :
    Calls Try.prog 3 #[v] w fun e w' => e = .returned (.bool true) ∧ Below w.heap.size w w' := by
  have hb : ∀ x ∈ xs, 0 ≤ x ∧ x ≤ 255 := byte_ok hf
  have CB := (show Hid _ from big_any h)
  by_cases hbig : 1048576 < xs.length
  · have hd : decide (1048576 < xs.length) = true := decide_eq_true hbig
    rw [hd] at CB
    go_enter Try.func3, Try.ntmps3
    go_wp2_with fail
    go_at_call 12
    refine Calls.mono CB.out ?_
    rintro e w1 ⟨rfl, e1⟩
    subst e1
    go_wp2
    go_ret
    exact ⟨rfl, Below.refl _ _⟩
  have hd : decide (1048576 < xs.length) = false := decide_eq_false hbig
  rw [hd] at CB
  have HS := (show Hid (Sl .u8 w v xs) from h)
  have HB := (show Hid (∀ x ∈ xs, 0 ≤ x ∧ x ≤ 255) from hb)
  have hxl : xs.length ≤ 1048576 := by omega
  obtain ⟨i0, hi, hz0, hz1, hz2⟩ := info_parts Try.infoB
  clear hd hf hb hbig h
  go_enter Try.func3, Try.ntmps3
  go_wp2_with fail
  go_at_call 12
  refine Calls.mono CB.out ?_
  rintro e w1 ⟨rfl, e1⟩
  have e2 : w1 = w := e1
  subst e2
  clear CB e1
  go_wp2_with fail
  go_at_call 13
  refine (drawRecPack_any HS.out HB.out (by omega)).mono ?_
  rintro e w2 ⟨q, rfl, hq, b2⟩
  obtain ⟨w3, hw3⟩ : ∃ y, y = w2.alloc (.cells #[.int .i64 q.kind, .string q.url, .string q.body] 25) := ⟨_, rfl⟩
  have b3 : Below w2.heap.size w2 w3 := by rw [hw3]; exact (Below.refl _ _).alloc (Nat.le_refl _) _
  have X3 := (show Hid (w3.heap[w2.heap.size]? = some (.cells #[.int .i64 q.kind, .string q.url, .string q.body] 25 (0, 0))) from by rw [hw3]; exact World.alloc_heap_new _ _)
  have B3 := (show Hid (Below w1.heap.size w1 w3) from b2.trans (b3.mono b2.size))
  have CP := (show Hid _ from irecPack_any q w3 (by have := hq.2.2.1; omega) (by have := hq.2.2.2; omega))
  have CS := (show Hid _ from fun W => srecPack_any q W (by have := hq.2.2.1; omega) (by have := hq.2.2.2; omega))
  have HP := (show Hid (packR q = if recB q = true then (recL q, true) else ([], false)) from rfl)
  have HQ := (show Hid (recB q = true → (recL q).length ≤ 97 ∧ ∀ pre rest : List Int, readR (pre ++ recL q ++ rest) (pre.length : Nat) = (q, ((pre.length + (recL q).length : Nat) : Int), true)) from fun hr => ⟨recL_len97 hq, fun pre rest => readR_of hr (by have := hq.2.2.2; omega) pre rest⟩)
  have HQB := (show Hid (∀ y ∈ recL q, 0 ≤ y ∧ y ≤ 255) from recL_byte (by have := hq.2.1; omega) (by have := hq.2.2.1; omega) (by have := hq.2.2.2; omega))
  obtain ⟨m1, m2, m3, _, _, _⟩ := rk_three X3.out
  clear b2 b3 hq
  go_wp2_with fail
  go_at_call 14
  rw [← hw3]
  refine Calls.mono CP.out ?_
  rintro e w4 ⟨pv, rfl, op, b4⟩
  have X4 := (show Hid (w4.heap[w2.heap.size]? = some (.cells #[.int .i64 q.kind, .string q.url, .string q.body] 25 (0, 0))) from (b4.block _ (lt_of_block X3.out)).trans X3.out)
  have B4 := (show Hid (Below w1.heap.size w1 w4) from B3.out.trans (b4.mono B3.out.size))
  have OP := (show Hid (Own w1.heap.size 5 .u8 w4 pv (packR q).1) from World.ownsRow.baseD op B3.out.size)
  clear m1 m2 m3 hw3 op b4 X3 B3 CP
  obtain ⟨m1, m2, m3, _, _, _⟩ := rk_three X4.out
  go_wp2_with fail
  go_at_call 15
  refine (CS.out w4).mono ?_
  rintro e w5 ⟨pv2, rfl, _, b5⟩
  have X5 := (show Hid (w5.heap[w2.heap.size]? = some (.cells #[.int .i64 q.kind, .string q.url, .string q.body] 25 (0, 0))) from (b5.block _ (lt_of_block X4.out)).trans X4.out)
  have B := (show Hid (Below w1.heap.size w1 w5) from B4.out.trans (b5.mono B4.out.size))
  have OP5 := (show Hid (Own w1.heap.size 5 .u8 w5 pv (packR q).1) from ownsRow_below OP.out b5)
  clear m1 m2 m3 b5 X4 B4 OP CS
  have hp2 := HP.out
  clear HP
  by_cases hr : recB q = true
  · rw [if_pos hr] at hp2
    rw [hp2] at OP5 ⊢
    simp only at OP5 ⊢
    obtain ⟨hql, HR⟩ := HQ.out hr
    have hR : readR ([9] ++ recL q ++ [1]) 1 = (q, 1 + ((recL q).length : Int), true) := by
      have h1 := HR [9] [1]
      have e : (((List.length [(9 : Int)]) + (recL q).length : Nat) : Int) = 1 + ((recL q).length : Int) := by simp
      rw [e] at h1
      exact h1
    have HRR := (show Hid _ from hR)
    clear hR HR
    have sp := OP5.out.sl
    have hsp := sp
    obtain ⟨pa, pc, rfl, _⟩ := hsp
    have SP := (show Hid (Sl .u8 w5 (.slice pa (recL q).length pc) (recL q)) from sp)
    clear hp2 HQ OP5 sp
    have O6 := (show Hid (Own w5.heap.size 5 .u8 (w5.alloc (.cells #[.int .u8 9] 5)) (.slice (some ⟨w5.heap.size, 0, none⟩) 1 1) [9]) from World.ownsRow_lit w5 #[.int .u8 9] 1 (Nat.le_refl _) (by decide) rfl)
    have b6 : Below w5.heap.size w5 (w5.alloc (.cells #[.int .u8 9] 5)) := (Below.refl _ _).alloc (Nat.le_refl _) _
    have S6 := (show Hid (Sl .u8 (w5.alloc (.cells #[.int .u8 9] 5)) (.slice pa (recL q).length pc) (recL q)) from SP.out.below b6)
    have hb6 := b6.size
    go_wp2_with (first
      | (at_builtin
         refine wpList_app _ rfl (.tmp 39) (.tmp 40) 22 rfl w5.heap.size 5 i0 (.int .u8 0) 1 Try.underlying22 hi hz0 hz1 hz2 rfl .u8 _ (.slice pa (recL q).length pc) [9] (recL q) rfl rfl O6.out S6.out (by simp only [List.length_singleton]; omega) (by unfold maxLen; simp only [List.length_singleton]; omega) hb6 ?_
         intro v7 w7 o7 g7
         have B7 := (show Hid (Below w5.heap.size w5 w7) from b6.grown g7 hb6 (fun j hj => (World.ownsRow.lt O6.out j hj).1))
         have b8 : Below w7.heap.size w7 (w7.alloc (.cells #[.int .u8 1] 5)) := (Below.refl _ _).alloc (Nat.le_refl _) _
         have O7 := (show Hid (Own w5.heap.size 5 .u8 (w7.alloc (.cells #[.int .u8 1] 5)) v7 ([9] ++ recL q)) from ownsRow_below o7 b8)
         have S8 := (show Hid (Sl .u8 (w7.alloc (.cells #[.int .u8 1] 5)) (.slice (some ⟨w7.heap.size, 0, none⟩) 1 1) [1]) from Own.sl (B := w7.heap.size) (e := 5) (World.ownsRow_lit w7 #[.int .u8 1] 1 (Nat.le_refl _) (by decide) rfl))
         have hb8 : w5.heap.size ≤ (w7.alloc (.cells #[.int .u8 1] 5)).heap.size := Nat.le_trans B7.out.size b8.size
         have B8 := (show Hid (Below w5.heap.size w5 (w7.alloc (.cells #[.int .u8 1] 5))) from B7.out.trans (b8.mono B7.out.size))
         have HB8 := (show Hid _ from hb8)
         clear o7 g7 O6 S6 b6 hb6 B7 b8 hb8)
      | (at_builtin
         refine wpList_app _ rfl (.tmp 41) (.tmp 42) 22 rfl w5.heap.size 5 i0 (.int .u8 0) 1 Try.underlying22 hi hz0 hz1 hz2 rfl .u8 v7 (.slice (some ⟨w7.heap.size, 0, none⟩) 1 1) ([9] ++ recL q) [1] rfl rfl O7.out S8.out (by simp only [List.length_append, List.length_singleton]; omega) (by unfold maxLen; simp only [List.length_append, List.length_singleton]; omega) HB8.out ?_
         intro v9 w9 o9 g9
         have B9 := (show Hid (Below w5.heap.size w5 w9) from B8.out.grown g9 HB8.out (fun j hj => (World.ownsRow.lt O7.out j hj).1))
         have S9 := (show Hid (Sl .u8 w9 v9 ([9] ++ recL q ++ [1])) from Own.sl o9)
         clear o9 g9 O7 S8 B8 HB8))
    go_at_call 16
    refine (irecRead_any (i := 1) S9.out (bytes_app (bytes_app (by decide) HQB.out) (by decide)) (by simp only [List.length_append, List.length_singleton]; omega)).mono ?_
    rintro e w10 ⟨rfl, b10⟩
    rw [HRR.out]
    unfold recV
    simp only
    have B10 := (show Hid (Below w5.heap.size w5 w10) from B9.out.trans (b10.mono B9.out.size))
    have x10 := (B10.out.block _ (lt_of_block X5.out)).trans X5.out
    have hlt2 := lt_of_block x10
    have bA : Below w10.heap.size w10 (w10.alloc (.cells #[.int .i64 q.kind, .string q.url, .string q.body] 25)) := (Below.refl _ _).alloc (Nat.le_refl _) _
    obtain ⟨m1, m2, m3, _, _, _⟩ := rk_three ((bA.block _ hlt2).trans x10)
    obtain ⟨r1, r2, r3, _, _, _⟩ := rk_three (World.alloc_heap_new w10 (.cells #[.int .i64 q.kind, .string q.url, .string q.body] 25))
    have hneq := rec_neq q.kind q.url q.body
    have BO := (show Hid (Below w1.heap.size w1 (w10.alloc (.cells #[.int .i64 q.kind, .string q.url, .string q.body] 25))) from (B.out.trans (B10.out.mono B.out.size)).trans (bA.mono (Nat.le_trans B.out.size B10.out.size)))
    clear B9 S9 b10 B10 x10 bA X5 HRR HQB SP B
    have B := BO
    clear BO
    go_wp2_with fail
    go_at_call 17
    refine (drawRecords_any (HS.out.below B.out) HB.out (by omega)).mono ?_
    rintro e w5 ⟨rv, zs, rfl, hz, hzl, hzb, b5⟩
    have HZ := (show Hid (Sl .u8 w5 rv zs ∧ ∀ y ∈ zs, 0 ≤ y ∧ y ≤ 255) from ⟨hz, hzb⟩)
    have B5 := (show Hid (Below w1.heap.size w1 w5) from B.out.trans (b5.mono B.out.size))
    clear hz hzb b5 B
    go_wp2_with fail
    go_at_call 18
    refine (irecords_any HZ.out.1 HZ.out.2 (by omega)).mono ?_
    rintro e w6 ⟨lv, rfl, ol, b6⟩
    have HZ6 := (show Hid (Sl .u8 w6 rv zs ∧ ∀ y ∈ zs, 0 ≤ y ∧ y ≤ 255) from ⟨HZ.out.1.below b6, HZ.out.2⟩)
    have B6 := (show Hid (Below w1.heap.size w1 w6) from B5.out.trans (b6.mono B5.out.size))
    have OL := (show Hid (OwnRs w1.heap.size w6 lv (recsR zs).1) from World.ownsRow.baseD ol B5.out.size)
    clear ol b6 HZ B5
    go_wp2_with fail
    go_at_call 19
    refine (srecords_any HZ6.out.1 HZ6.out.2 (by omega)).mono ?_
    rintro e w7 ⟨lv2, rfl, _, b7⟩
    have HZ7 := (show Hid (Sl .u8 w7 rv zs ∧ ∀ y ∈ zs, 0 ≤ y ∧ y ≤ 255) from ⟨HZ6.out.1.below b7, HZ6.out.2⟩)
    have B7 := (show Hid (Below w1.heap.size w1 w7) from B6.out.trans (b7.mono B6.out.size))
    have OL7 := (show Hid (OwnRs w1.heap.size w7 lv (recsR zs).1) from ownsRow_below OL.out b7)
    have HX := (show Hid (((recsR zs).2 = true → zs = (recsR zs).1.flatMap recL ∧ ∀ r ∈ (recsR zs).1, recB r = true) ∧ ((recsR zs).2 = false → (recsR zs).1 = [])) from ⟨recsR_back HZ7.out.2, recsR_no⟩)
    clear OL b7 HZ6 B6
    obtain ⟨p, hp⟩ : ∃ p, p = recsR zs := ⟨_, rfl⟩
    rw [← hp] at HX OL7 ⊢
    clear hp
    obtain ⟨l, fine⟩ := p
    simp only at HX OL7 ⊢
    obtain ⟨la, lc, rfl, _, _, _⟩ := (sv_of_own OL7.out).recs
    cases fine
    · have hl0 := HX.out.2 rfl
      subst hl0
      go_wp2
      go_ret
      exact ⟨rfl, B7.out⟩
    · have HY := (show Hid _ from HX.out.1 rfl)
      clear HX
      have hll := flat_pos l HY.out.2
      rw [← HY.out.1] at hll
      have o8 : Own w7.heap.size 5 .u8 (w7.alloc (.cells #[] 5)) (.slice (some ⟨w7.heap.size, 0, none⟩) 0 0) [] := own_empty 5 .u8 w7
      have b8 : Below w7.heap.size w7 (w7.alloc (.cells #[] 5)) := (Below.refl _ _).alloc (Nat.le_refl _) _
      go_wp2_with fail
      go_loopw [16, 17] (fun z i wr => ∃ (k : Nat) (out : List Int), k ≤ l.length ∧ i = .int .i64 k ∧ Hid (Own w7.heap.size 5 .u8 wr z out) ∧ Hid (out = (l.take k).flatMap recL) ∧ Hid (Below w7.heap.size w7 wr)) (fun _ i _ => l.length - (intOf i).toNat)
      case atStart => exact ⟨0, [], Nat.zero_le _, rfl, o8, rfl, b8⟩
      case round =>
        clear o8 b8
        obtain ⟨k, out, hk, rfl, O, HO, B⟩ := hrel
        by_cases hlt : k < l.length
        · obtain ⟨a', c', ev, _, _, hca⟩ := (sv_of_own (ownsRow_below OL7.out B.out)).recs
          cases ev
          obtain ⟨lb, lo, rfl, ll, c0, c1, c2⟩ := hca k hlt
          have hrb := HY.out.2 _ (List.getElem_mem hlt)
          have hsz := rec_sizes (l := l) (List.getElem_mem hlt) hrb
          have hol2 := flat_take (l := l) (k := k + 1)
          rw [← HY.out.1, List.take_succ_eq_append_getElem hlt, List.flatMap_append, List.flatMap_singleton, ← HO.out, List.length_append] at hol2
          rw [← HY.out.1] at hsz
          have HT := (show Hid (out ++ recL l[k] = (l.take (k + 1)).flatMap recL) from (show _ = _ by rw [List.take_succ_eq_append_getElem hlt, List.flatMap_append, List.flatMap_singleton, HO.out]))
          obtain ⟨q, hq⟩ : ∃ q, q = l[k] := ⟨_, rfl⟩
          rw [← hq] at c0 c1 c2 hrb hsz HT hol2
          clear hq hca
          have hub := recB_url hrb
          have hpk : packR q = (recL q, true) := by unfold packR; rw [if_pos hrb]
          have CP := (show Hid _ from irecPack_any q wr (by omega) (by omega))
          rw [hpk] at CP
          have CU := (show Hid (∀ W, Calls Try.prog 20 #[.string q.url] W fun e w' => e = .returned (.bool true) ∧ Below W.heap.size W w') from fun W => hub ▸ iurlOk_any q.url W (by omega))
          clear hpk hub hrb
          go_wp2_with fail
          go_at_call 14
          refine Calls.mono CP.out ?_
          rintro e w8 ⟨pv, rfl, op, b8⟩
          have OP := (show Hid (Own wr.heap.size 5 .u8 w8 pv (recL q)) from op)
          have O8 := (show Hid (Own w7.heap.size 5 .u8 w8 u16 out) from ownsRow_below O.out b8)
          have B8 := (show Hid (Below w7.heap.size w7 w8) from B.out.trans (b8.mono B.out.size))
          have c1' := (b8.cell (p := ⟨lb, lo + k * 3 + 1, none⟩) ll).trans c1
          clear op O B CP c0 c1 c2 b8 HO
          go_wp2_with fail
          go_at_call 20
          refine (CU.out w8).mono ?_
          rintro e w9 ⟨rfl, b9⟩
          have OP9 := (show Hid (Sl .u8 w9 pv (recL q)) from Own.sl (ownsRow_below OP.out b9))
          have O9 := (show Hid (Own w7.heap.size 5 .u8 w9 u16 out) from ownsRow_below O8.out b9)
          have B9 := (show Hid (Below w7.heap.size w7 w9) from B8.out.trans (b9.mono B8.out.size))
          clear OP O8 B8 c1' b9
          go_wp2_with (at_builtin; refine wpList_app _ rfl _ _ 22 rfl w7.heap.size 5 i0 (.int .u8 0) 1 Try.underlying22 hi hz0 hz1 hz2 rfl .u8 u16 pv out (recL q) rfl rfl O9.out OP9.out (by omega) (by unfold maxLen; omega) B9.out.size ?_; intro v10 w10 o10 g10)
          have B10 := (show Hid (Below w7.heap.size w7 w10) from B9.out.grown g10 B9.out.size (fun j hj => (World.ownsRow.lt O9.out j hj).1))
          have O10 := (show Hid (Own w7.heap.size 5 .u8 w10 v10 (out ++ recL q)) from o10)
          clear o10 g10 O9 B9 OP9
          go_wp2
          go_roundw
          case rel => exact ⟨k + 1, out ++ recL q, by omega, by go_num, O10, HT, B10⟩
          case measure => simp [intOf]; omega
        · have hke : k = l.length := by omega
          have hoz : out = zs := by rw [HO.out, hke, List.take_length]; exact HY.out.1.symm
          subst hoz
          have cv1 := conv_sl O.out.sl
          have cv2 := conv_sl (HZ7.out.1.below B.out)
          go_wp2
          go_ret
          exact ⟨rfl, B7.out.trans (B.out.mono B7.out.size)⟩
  · rw [if_neg hr] at hp2
    rw [hp2] at OP5 ⊢
    simp only at OP5 ⊢
    clear hp2 OP5 HQ X5 HQB
    go_wp2_with fail
    go_at_call 17
    refine (drawRecords_any (HS.out.below B.out) HB.out (by omega)).mono ?_
    rintro e w5 ⟨rv, zs, rfl, hz, hzl, hzb, b5⟩
    have HZ := (show Hid (Sl .u8 w5 rv zs ∧ ∀ y ∈ zs, 0 ≤ y ∧ y ≤ 255) from ⟨hz, hzb⟩)
    have B5 := (show Hid (Below w1.heap.size w1 w5) from B.out.trans (b5.mono B.out.size))
    clear hz hzb b5 B
    go_wp2_with fail
    go_at_call 18
    refine (irecords_any HZ.out.1 HZ.out.2 (by omega)).mono ?_
    rintro e w6 ⟨lv, rfl, ol, b6⟩
    have HZ6 := (show Hid (Sl .u8 w6 rv zs ∧ ∀ y ∈ zs, 0 ≤ y ∧ y ≤ 255) from ⟨HZ.out.1.below b6, HZ.out.2⟩)
    have B6 := (show Hid (Below w1.heap.size w1 w6) from B5.out.trans (b6.mono B5.out.size))
    have OL := (show Hid (OwnRs w1.heap.size w6 lv (recsR zs).1) from World.ownsRow.baseD ol B5.out.size)
    clear ol b6 HZ B5
    go_wp2_with fail
    go_at_call 19
    refine (srecords_any HZ6.out.1 HZ6.out.2 (by omega)).mono ?_
    rintro e w7 ⟨lv2, rfl, _, b7⟩
    have HZ7 := (show Hid (Sl .u8 w7 rv zs ∧ ∀ y ∈ zs, 0 ≤ y ∧ y ≤ 255) from ⟨HZ6.out.1.below b7, HZ6.out.2⟩)
    have B7 := (show Hid (Below w1.heap.size w1 w7) from B6.out.trans (b7.mono B6.out.size))
    have OL7 := (show Hid (OwnRs w1.heap.size w7 lv (recsR zs).1) from ownsRow_below OL.out b7)
    have HX := (show Hid (((recsR zs).2 = true → zs = (recsR zs).1.flatMap recL ∧ ∀ r ∈ (recsR zs).1, recB r = true) ∧ ((recsR zs).2 = false → (recsR zs).1 = [])) from ⟨recsR_back HZ7.out.2, recsR_no⟩)
    clear OL b7 HZ6 B6
    obtain ⟨p, hp⟩ : ∃ p, p = recsR zs := ⟨_, rfl⟩
    rw [← hp] at HX OL7 ⊢
    clear hp
    obtain ⟨l, fine⟩ := p
    simp only at HX OL7 ⊢
    obtain ⟨la, lc, rfl, _, _, _⟩ := (sv_of_own OL7.out).recs
    cases fine
    · have hl0 := HX.out.2 rfl
      subst hl0
      go_wp2
      go_ret
      exact ⟨rfl, B7.out⟩
    · have HY := (show Hid _ from HX.out.1 rfl)
      clear HX
      have hll := flat_pos l HY.out.2
      rw [← HY.out.1] at hll
      have o8 : Own w7.heap.size 5 .u8 (w7.alloc (.cells #[] 5)) (.slice (some ⟨w7.heap.size, 0, none⟩) 0 0) [] := own_empty 5 .u8 w7
      have b8 : Below w7.heap.size w7 (w7.alloc (.cells #[] 5)) := (Below.refl _ _).alloc (Nat.le_refl _) _
      go_wp2_with fail
      go_loopw [16, 17] (fun z i wr => ∃ (k : Nat) (out : List Int), k ≤ l.length ∧ i = .int .i64 k ∧ Hid (Own w7.heap.size 5 .u8 wr z out) ∧ Hid (out = (l.take k).flatMap recL) ∧ Hid (Below w7.heap.size w7 wr)) (fun _ i _ => l.length - (intOf i).toNat)
      case atStart => exact ⟨0, [], Nat.zero_le _, rfl, o8, rfl, b8⟩
      case round =>
        clear o8 b8
        obtain ⟨k, out, hk, rfl, O, HO, B⟩ := hrel
        by_cases hlt : k < l.length
        · obtain ⟨a', c', ev, _, _, hca⟩ := (sv_of_own (ownsRow_below OL7.out B.out)).recs
          cases ev
          obtain ⟨lb, lo, rfl, ll, c0, c1, c2⟩ := hca k hlt
          have hrb := HY.out.2 _ (List.getElem_mem hlt)
          have hsz := rec_sizes (l := l) (List.getElem_mem hlt) hrb
          have hol2 := flat_take (l := l) (k := k + 1)
          rw [← HY.out.1, List.take_succ_eq_append_getElem hlt, List.flatMap_append, List.flatMap_singleton, ← HO.out, List.length_append] at hol2
          rw [← HY.out.1] at hsz
          have HT := (show Hid (out ++ recL l[k] = (l.take (k + 1)).flatMap recL) from (show _ = _ by rw [List.take_succ_eq_append_getElem hlt, List.flatMap_append, List.flatMap_singleton, HO.out]))
          obtain ⟨q, hq⟩ : ∃ q, q = l[k] := ⟨_, rfl⟩
          rw [← hq] at c0 c1 c2 hrb hsz HT hol2
          clear hq hca
          have hub := recB_url hrb
          have hpk : packR q = (recL q, true) := by unfold packR; rw [if_pos hrb]
          have CP := (show Hid _ from irecPack_any q wr (by omega) (by omega))
          rw [hpk] at CP
          have CU := (show Hid (∀ W, Calls Try.prog 20 #[.string q.url] W fun e w' => e = .returned (.bool true) ∧ Below W.heap.size W w') from fun W => hub ▸ iurlOk_any q.url W (by omega))
          clear hpk hub hrb
          go_wp2_with fail
          go_at_call 14
          refine Calls.mono CP.out ?_
          rintro e w8 ⟨pv, rfl, op, b8⟩
          have OP := (show Hid (Own wr.heap.size 5 .u8 w8 pv (recL q)) from op)
          have O8 := (show Hid (Own w7.heap.size 5 .u8 w8 u16 out) from ownsRow_below O.out b8)
          have B8 := (show Hid (Below w7.heap.size w7 w8) from B.out.trans (b8.mono B.out.size))
          have c1' := (b8.cell (p := ⟨lb, lo + k * 3 + 1, none⟩) ll).trans c1
          clear op O B CP c0 c1 c2 b8 HO
          go_wp2_with fail
          go_at_call 20
          refine (CU.out w8).mono ?_
          rintro e w9 ⟨rfl, b9⟩
          have OP9 := (show Hid (Sl .u8 w9 pv (recL q)) from Own.sl (ownsRow_below OP.out b9))
          have O9 := (show Hid (Own w7.heap.size 5 .u8 w9 u16 out) from ownsRow_below O8.out b9)
          have B9 := (show Hid (Below w7.heap.size w7 w9) from B8.out.trans (b9.mono B8.out.size))
          clear OP O8 B8 c1' b9
          go_wp2_with (at_builtin; refine wpList_app _ rfl _ _ 22 rfl w7.heap.size 5 i0 (.int .u8 0) 1 Try.underlying22 hi hz0 hz1 hz2 rfl .u8 u16 pv out (recL q) rfl rfl O9.out OP9.out (by omega) (by unfold maxLen; omega) B9.out.size ?_; intro v10 w10 o10 g10)
          have B10 := (show Hid (Below w7.heap.size w7 w10) from B9.out.grown g10 B9.out.size (fun j hj => (World.ownsRow.lt O9.out j hj).1))
          have O10 := (show Hid (Own w7.heap.size 5 .u8 w10 v10 (out ++ recL q)) from o10)
          clear o10 g10 O9 B9 OP9
          go_wp2
          go_roundw
          case rel => exact ⟨k + 1, out ++ recL q, by omega, by go_num, O10, HT, B10⟩
          case measure => simp [intOf]; omega
        · have hke : k = l.length := by omega
          have hoz : out = zs := by rw [HO.out, hke, List.take_length]; exact HY.out.1.symm
          subst hoz
          have cv1 := conv_sl O.out.sl
          have cv2 := conv_sl (HZ7.out.1.below B.out)
          go_wp2
          go_ret
          exact ⟨rfl, B7.out.trans (B.out.mono B7.out.size)⟩
end Go.Proofs.Ytmpgbonolmmcpaa
