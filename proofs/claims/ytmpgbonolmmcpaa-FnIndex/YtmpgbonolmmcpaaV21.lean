/- The exact laws of AttrsOk, AttrOf and AttrsSame, walked from contracts of the program's functions. -/
import Derived.Test.YtmpgbonolmmcpaaV20
import Derived.Test.YtmpgbonolmmcpaaV19
import Derived.Test.YtmpgbonolmmcpaaV17
import Derived.Test.YtmpgbonolmmcpaaV13
namespace Go.Proofs.Ytmpgbonolmmcpaa
open Go.RowKit
set_option maxRecDepth 100000
set_option linter.unusedVariables false

/-- Every text of a list is short. -/
def Short (rs : List (ByteArray × ByteArray)) : Prop := rs.length ≤ 1048576 ∧ ∀ p ∈ rs, p.1.size ≤ 1099511627776 ∧ p.2.size ≤ 1099511627776

theorem short_of {rs : List (ByteArray × ByteArray)} {l r : Int} (hl : l ≤ 1048576) (h : (rs.length : Int) ≤ l ∧ ∀ p ∈ rs, (p.1.size : Int) + p.2.size ≤ l) : Short rs :=
  ⟨by have := h.1; omega, fun p hp => by have := h.2 p hp; omega⟩

end Go.Proofs.Ytmpgbonolmmcpaa

/- What the exact law of AttrAdd asks of the program's function, and rows of values that are apart. -/
namespace Go.Proofs.Ytmpgbonolmmcpaa
open Go.RowKit
set_option maxRecDepth 100000
set_option linter.unusedVariables false

theorem row_ne {B size size' n n' : Nat} {e e' : TypeId} {w w' : World} {v v' : Value} {xs ys : List Value} (h : w.ownsRow B e size v n xs) (h' : w'.ownsRow w.heap.size e' size' v' n' ys) :
    ∀ k j, v.ownBlock = some k → v'.ownBlock = some j → k ≠ j := fun k j hk hj => by
  have a := (World.ownsRow.lt h k hk).2
  have b := (World.ownsRow.lt h' j hj).1
  omega
theorem row_kept {B size n : Nat} {e : TypeId} {w w' : World} {v v1 : Value} {xs : List Value} (h : w.ownsRow B e size v n xs) (hg : w.grownBy w' v1.ownBlock)
    (hne : ∀ k j, v.ownBlock = some k → v1.ownBlock = some j → k ≠ j) : w'.ownsRow B e size v n xs := by
  by_cases h0 : v.ownBlock = none
  · exact World.ownsRow.kept h hg (.inl h0)
  · obtain ⟨k, hk⟩ := Option.ne_none_iff_exists'.mp h0
    by_cases h1 : v1.ownBlock = none
    · exact World.ownsRow.kept h hg (.inr (by rw [h1]; exact h0))
    · obtain ⟨j, hj⟩ := Option.ne_none_iff_exists'.mp h1
      exact World.ownsRow.kept h hg (.inr (by rw [hk, hj]; intro e; exact hne k j hk hj (Option.some.inj e)))
theorem row_base {B B' size n : Nat} {e : TypeId} {w : World} {v : Value} {xs : List Value} (h : w.ownsRow B e size v n xs) (hB : B' ≤ B) : w.ownsRow B' e size v n xs := by
  obtain ⟨hl, hv | ⟨g, cap, cur, hv, hb, r⟩⟩ := h
  · exact ⟨hl, .inl hv⟩
  · exact ⟨hl, .inr ⟨g, cap, cur, hv, Nat.le_trans hB hb, r⟩⟩

theorem attrAdd_len (rs : List (ByteArray × ByteArray)) (p : ByteArray × ByteArray) : (attrAdd rs p).length ≤ rs.length + 1 := by unfold attrAdd; split <;> simp
end Go.Proofs.Ytmpgbonolmmcpaa

/- The exact law of Records from its contract. -/
namespace Go.Proofs.Ytmpgbonolmmcpaa
open Go.RowKit
set_option maxRecDepth 100000
set_option linter.unusedVariables false

def RecordsOk : Prop := ∀ (v : Value) (xs : List Int) (w : World), Sl .u8 w v xs → (∀ x ∈ xs, 0 ≤ x ∧ x ≤ 255) → xs.length ≤ 1048576 → Calls Try.prog 18 #[v] w fun e w' => ∃ v', e = .returned (.tuple #[v', .bool (recsR xs).2]) ∧ OwnRs w.heap.size w' v' (recsR xs).1 ∧ Below w.heap.size w w'

theorem recsF_len {xs : List Int} (hb : ∀ x ∈ xs, 0 ≤ x ∧ x ≤ 255) : ∀ (f i : Nat) (l : List PRec), recsF xs f i = some l → l.length ≤ xs.length - i := by
  intro f
  induction f with
  | zero => intro i l h; cases h
  | succ f ih =>
    intro i l h
    unfold recsF at h
    split at h
    · rename_i hi
      split at h
      · rename_i hok
        have hn := readR_next (r := (readR xs i).1) (j := (readR xs i).2.1) (by rw [← hok]) hb
        cases hq : recsF xs f (readR xs i).2.1.toNat with
        | none => rw [hq] at h; cases h
        | some l' =>
          rw [hq] at h
          simp only [Option.map_some, Option.some.injEq] at h
          have := ih _ _ hq
          rw [← h, List.length_cons]
          omega
      · cases h
    · simp only [Option.some.injEq] at h
      rw [← h]
      exact Nat.zero_le _
theorem recsR_len {xs : List Int} (hb : ∀ x ∈ xs, 0 ≤ x ∧ x ≤ 255) : (recsR xs).1.length ≤ xs.length := by
  unfold recsR
  cases h : recsF xs (xs.length + 1) 0 with
  | none => exact Nat.zero_le _
  | some l => exact recsF_len hb _ _ _ h

set_option maxHeartbeats 1000000 in
set_option maxRecDepth 100000 in
theorem fnExactRecords_of (H : RecordsOk) {v : Value} {xs : List Int} (w : World) (h : Sl .u8 w v xs) (hwf : ∀ n ∈ xs, (Lit.int .u8 n).wf = true) :
    Calls Try.prog 8 #[v] w fun e w' => e = .returned (.bool true) ∧ Below w.heap.size w w' := by
  have h0 := h
  have hw := h
  obtain ⟨a, ca, rfl, _, _, _, ha⟩ := h
  clear ha
  by_cases hbig : 1048576 < xs.length
  · go_enter Try.func8, Try.ntmps8
    go_wp2
    go_ret
    exact ⟨rfl, Below.refl _ _⟩
  have hn : xs.length ≤ 1048576 := by omega
  have HS := (show Hid (∀ (v : Value) (w : World), Sl .u8 w v xs → Calls Try.prog 19 #[v] w fun e w' => ∃ v', e = .returned (.tuple #[v', .bool (recsR xs).2]) ∧ OwnRs w.heap.size w' v' (recsR xs).1 ∧ Below w.heap.size w w') from fun v w h => srecords_any h (byte_ok hwf) hn)
  have HI := (show Hid (∀ (v : Value) (w : World), Sl .u8 w v xs → Calls Try.prog 18 #[v] w fun e w' => ∃ v', e = .returned (.tuple #[v', .bool (recsR xs).2]) ∧ OwnRs w.heap.size w' v' (recsR xs).1 ∧ Below w.heap.size w w') from fun v w h => H v xs w h (byte_ok hwf) hn)
  have hl := recsR_len (byte_ok hwf)
  obtain ⟨⟨rs, ok⟩, hq⟩ : ∃ q, q = recsR xs := ⟨_, rfl⟩
  rw [← hq] at HS HI hl
  simp only at HS HI hl
  have e1 : (ok != ok) = false := by cases ok <;> rfl
  clear hq H hwf
  go_enter Try.func8, Try.ntmps8
  go_wp2_with fail
  go_at_call 34
  refine (toB_any h0 (by omega)).mono ?_
  rintro e w1 ⟨x1, rfl, ox1, b1⟩
  replace h0 := h0.below b1
  go_wp2_with fail
  go_at_call 19
  refine (HS.out _ _ (Own.sl ox1)).mono ?_
  rintro e w2 ⟨v1, rfl, o1, b2⟩
  replace h0 := h0.below b2
  have B : Below w.heap.size w w2 := b1.trans (b2.mono b1.size)
  replace o1 := row_base o1 b1.size
  clear ox1 b1 b2 HS
  go_wp2_with fail
  go_at_call 34
  refine (toB_any h0 (by omega)).mono ?_
  rintro e w3 ⟨x0, rfl, ox, b3⟩
  have d1 := row_ne o1 ox
  have hbs := B.size
  replace h0 := h0.below b3
  replace o1 := ownsRow_below o1 b3
  replace B := B.trans (b3.mono hbs)
  replace ox := ox.base hbs
  clear b3 hbs
  go_wp2_with fail
  go_at_call 18
  refine (HI.out _ _ (Own.sl ox)).mono ?_
  rintro e w4 ⟨v2, rfl, o2, b4⟩
  have d2 := row_ne ox o2
  have d3 := row_ne o1 o2
  have hbs := B.size
  replace h0 := h0.below b4
  replace o1 := ownsRow_below o1 b4
  replace ox := ox.below b4
  replace B := B.trans (b4.mono hbs)
  replace o2 := row_base o2 hbs
  clear b4 hbs
  go_wp2_with fail
  go_at_call 36
  refine (eqRecordS_same (sv_of_own o2) (sv_of_own o1) (by omega)).mono ?_
  rintro e w5 ⟨rfl, b5⟩
  replace h0 := h0.below b5
  replace o1 := ownsRow_below o1 b5
  replace ox := ox.below b5
  replace o2 := ownsRow_below o2 b5
  replace B := B.trans (b5.mono B.size)
  clear b5
  go_wp2_with fail
  go_at_call 34
  refine (toB_any h0 (by omega)).mono ?_
  rintro e w6 ⟨x2, rfl, ox2, b6⟩
  replace h0 := h0.below b6
  replace o1 := ownsRow_below o1 b6
  replace ox := ox.below b6
  replace o2 := ownsRow_below o2 b6
  replace B := B.trans (b6.mono B.size)
  clear b6
  go_wp2_with fail
  go_at_call 30
  refine (eqB_any ox.sl ox2.sl (by omega) (by omega)).mono ?_
  rintro e w7 ⟨rfl, b7⟩
  clear ox2
  replace h0 := h0.below b7
  replace o1 := ownsRow_below o1 b7
  replace ox := ox.below b7
  replace o2 := ownsRow_below o2 b7
  replace B := B.trans (b7.mono B.size)
  clear b7
  go_wp2_with fail
  go_at_call 31
  refine (markB_any ox (by omega) (by omega) (by omega)).mono ?_
  rintro e w8 ⟨rfl, oxm, g8⟩
  replace o1 := row_kept o1 g8 d1
  replace o2 := row_kept o2 g8 (fun k j hk hj => (d2 j k hj hk).symm)
  have hgx : ∀ k, x0.ownBlock = some k → w.heap.size ≤ k := ox.grownAt
  replace B := B.grown g8 B.size hgx
  clear g8 hgx d1 d2 ox oxm
  replace h0 := hw.below B
  go_wp2_with fail
  go_at_call 36
  refine (eqRecordS_same (sv_of_own o2) (sv_of_own o1) (by omega)).mono ?_
  rintro e w9 ⟨rfl, b9⟩
  replace h0 := h0.below b9
  replace o1 := ownsRow_below o1 b9
  replace o2 := ownsRow_below o2 b9
  replace B := B.trans (b9.mono B.size)
  clear b9
  go_wp2_with fail
  go_at_call 37
  refine (markRecordS_any o2 1 (by omega) (by omega) (by omega)).mono ?_
  rintro e w10 ⟨rfl, o2m, g10⟩
  replace o1 := row_kept o1 g10 d3
  replace B := B.grown g10 B.size (fun k hk => (World.ownsRow.lt o2 k hk).1)
  replace h0 := hw.below B
  clear g10 d3 o2
  go_wp2_with fail
  go_at_call 38
  refine (heldRecordS_any 1 (sv_of_own o2m) (by omega) (by omega) (by omega)).mono ?_
  rintro e w11 ⟨rfl, b11⟩
  replace h0 := h0.below b11
  replace o1 := ownsRow_below o1 b11
  replace o2m := ownsRow_below o2m b11
  replace B := B.trans (b11.mono B.size)
  clear b11
  go_wp2_with fail
  go_at_call 34
  refine (toB_any h0 (by omega)).mono ?_
  rintro e w12 ⟨x3, rfl, ox3, b12⟩
  replace h0 := h0.below b12
  replace o1 := ownsRow_below o1 b12
  replace o2m := ownsRow_below o2m b12
  replace B := B.trans (b12.mono B.size)
  clear b12
  go_wp2_with fail
  go_at_call 18
  refine (HI.out _ _ (Own.sl ox3)).mono ?_
  rintro e w13 ⟨v3, rfl, o3, b13⟩
  clear ox3
  replace h0 := h0.below b13
  replace o1 := ownsRow_below o1 b13
  replace o2m := ownsRow_below o2m b13
  replace B := B.trans (b13.mono B.size)
  clear b13
  go_wp2_with fail
  go_at_call 36
  refine (eqRecordS_same (sv_of_own o3) (sv_of_own o1) (by omega)).mono ?_
  rintro e w14 ⟨rfl, b14⟩
  clear o3 o1
  replace o2m := ownsRow_below o2m b14
  replace B := B.trans (b14.mono B.size)
  clear b14
  go_wp2_with fail
  go_at_call 38
  refine (heldRecordS_any 1 (sv_of_own o2m) (by omega) (by omega) (by omega)).mono ?_
  rintro e w15 ⟨rfl, b15⟩
  clear o2m
  replace B := B.trans (b15.mono B.size)
  go_wp2
  go_ret
  exact ⟨rfl, B⟩
end Go.Proofs.Ytmpgbonolmmcpaa

/- The laws' helpers on entries (written by mk/helpe.py). No condition. -/
namespace Go.Proofs.Ytmpgbonolmmcpaa
open Go.RowKit
set_option maxRecDepth 100000
set_option linter.unusedVariables false

theorem eqEntry_any (a b : ByteArray × ByteArray) (w : World) : Calls Try.prog 71 #[.agg #[.string a.1, .string a.2], .agg #[.string b.1, .string b.2]] w fun e w' => e = .returned (.bool (decide (a = b))) ∧ Below w.heap.size w w' := by
  obtain ⟨an, ap⟩ := a
  obtain ⟨bn, bp⟩ := b
  simp only
  have b2 : Below w.heap.size w ((w.alloc (.cells #[.string an, .string ap] 41)).alloc (.cells #[.string bn, .string bp] 41)) := ((Below.refl _ _).alloc (Nat.le_refl _) _).alloc (by simp) _
  by_cases hn : an = bn
  · subst hn
    by_cases hp : ap = bp
    · subst hp
      go_enter Try.func71, Try.ntmps71
      go_wp2
      go_ret
      exact ⟨ret_bool (by simp), b2⟩
    · have hd := toList_ne hp
      go_enter Try.func71, Try.ntmps71
      go_wp2
      go_ret
      exact ⟨ret_bool (by simp [hp]), b2⟩
  · have hd := toList_ne hn
    go_enter Try.func71, Try.ntmps71
    go_wp2
    go_ret
    exact ⟨ret_bool (by simp [hn]), b2⟩

set_option maxHeartbeats 2000000 in
set_option maxRecDepth 100000 in
theorem eqEntryS_any {va vb : Value} {rs qs : List (ByteArray × ByteArray)} {w : World} (ha : Sv 2 w va (pairCells rs)) (hb : Sv 2 w vb (pairCells qs)) (hn : rs.length ≤ 1099511627776) (hm : qs.length ≤ 1099511627776) :
    Calls Try.prog 41 #[va, vb] w fun e w' => e = .returned (.bool (decide (rs = qs))) ∧ Below w.heap.size w w' := by
  obtain ⟨a, ca, rfl, _, _, hca⟩ := ha.pair
  obtain ⟨b, cb, rfl, _, _, hcb⟩ := hb.pair
  clear ha hb
  by_cases hl : rs.length = qs.length
  · have hn2 : ((rs.length : Int) != (qs.length : Int)) = false := by simp [hl]
    go_enter Try.func41, Try.ntmps41
    go_wp2
    go_loopw [5] (fun i wr => ∃ k : Nat, k ≤ rs.length ∧ i = .int .i64 k ∧ rs.take k = qs.take k ∧ Below w.heap.size w wr) (fun i _ => rs.length - (intOf i).toNat)
    case atStart => exact ⟨0, Nat.zero_le _, rfl, rfl, Below.refl _ _⟩
    case round =>
      obtain ⟨k, hk, rfl, he, bel⟩ := hrel
      have HE := (show Hid _ from he)
      clear he
      by_cases hlt : k < rs.length
      · have hlt' : k < qs.length := by omega
        obtain ⟨b1, o1, rfl, l1, c1, c2⟩ := hca k hlt
        obtain ⟨b2, o2, rfl, l2, c3, c4⟩ := hcb k hlt'
        have g1 : ∀ n : Wd w.heap.size w, n.w.cell? ⟨b1, o1 + k * 2, none⟩ = some (.string rs[k].1) := fun n => (n.below.cell (p := ⟨b1, o1 + k * 2, none⟩) l1).trans c1
        have g2 : ∀ n : Wd w.heap.size w, n.w.cell? ⟨b1, o1 + k * 2 + 1, none⟩ = some (.string rs[k].2) := fun n => (n.below.cell (p := ⟨b1, o1 + k * 2 + 1, none⟩) l1).trans c2
        have g3 : ∀ n : Wd w.heap.size w, n.w.cell? ⟨b2, o2 + k * 2, none⟩ = some (.string qs[k].1) := fun n => (n.below.cell (p := ⟨b2, o2 + k * 2, none⟩) l2).trans c3
        have g4 : ∀ n : Wd w.heap.size w, n.w.cell? ⟨b2, o2 + k * 2 + 1, none⟩ = some (.string qs[k].2) := fun n => (n.below.cell (p := ⟨b2, o2 + k * 2 + 1, none⟩) l2).trans c4
        have HT : Hid (rs[k] = qs[k] → rs.take (k + 1) = qs.take (k + 1)) := fun e => by rw [List.take_succ_eq_append_getElem hlt, List.take_succ_eq_append_getElem hlt', HE.out, e]
        have HF : Hid (rs[k] ≠ qs[k] → rs ≠ qs) := fun e h => e (by subst h; rfl)
        obtain ⟨x, hx⟩ : ∃ x, x = rs[k] := ⟨_, rfl⟩
        obtain ⟨y, hy⟩ : ∃ y, y = qs[k] := ⟨_, rfl⟩
        rw [← hx] at g1 g2 HT HF
        rw [← hy] at g3 g4 HT HF
        clear hx hy c1 c2 c3 c4
        have cc := fun w => eqEntry_any x y w
        obtain ⟨p, hp⟩ : ∃ p, p = decide (x = y) := ⟨_, rfl⟩
        rw [← hp] at cc
        have CC := (show Hid _ from cc)
        have HP := (show Hid (p = decide (x = y)) from hp)
        clear cc hp
        have ne := Wd.any w.heap.size w
        go_wp2
        refine wp_region_below (by kernel_rfl) (by kernel_rfl) bel ?_
        repeat (go_big_quiet_step ((go_at_call 71; exact quiet_below (CC.out _) (Nat.le_refl _))))
        refine wpQuiet_nil ?_
        intro wq hq
        replace hq := Wd.of hq
        cases p
        · have hxy : Hid (x ≠ y) := (show x ≠ y by simpa using HP.out.symm)
          go_wp2
          go_ret
          exact ⟨ret_bool (by rw [decide_eq_false (HF.out hxy.out)]), hq⟩
        · have hxy : Hid (x = y) := (show x = y by simpa using HP.out.symm)
          go_wp2
          go_roundw
          case rel => exact ⟨k + 1, by omega, by go_num, HT.out hxy.out, hq⟩
          case measure => simp [intOf]; omega
      · have hke : k = rs.length := by omega
        have hab : rs = qs := by have := HE.out; rw [hke, List.take_length, hl, List.take_length] at this; exact this
        go_wp2
        go_ret
        exact ⟨ret_bool (by rw [decide_eq_true hab]), bel⟩
  · have hab : rs ≠ qs := fun e => hl (by rw [e])
    have hn2 : ((rs.length : Int) != (qs.length : Int)) = true := by simp; omega
    rw [decide_eq_false hab]
    go_enter Try.func41, Try.ntmps41
    go_wp2
    go_ret
    exact ⟨rfl, Below.refl _ _⟩

/-- What is left of a bound behind one pair: below 0, or the pair is no longer than it. -/
theorem szEntry_any (a : ByteArray × ByteArray) (l : Int) (w : World) (h0 : 0 ≤ l) (h1 : l ≤ 1099511627776) (ha : a.1.size ≤ maxLen) (hb : a.2.size ≤ maxLen) : Calls Try.prog 72 #[.agg #[.string a.1, .string a.2], .int .i64 l] w fun e w' =>
    ∃ r : Int, e = .returned (.int .i64 r) ∧ (r < 0 ∨ (0 ≤ r ∧ r ≤ l ∧ (a.1.size : Int) + a.2.size ≤ l)) ∧ Below w.heap.size w w' := by
  obtain ⟨an, ap⟩ := a
  simp only at ha hb ⊢
  have b2 : Below w.heap.size w (w.alloc (.cells #[.string an, .string ap] 96)) := (Below.refl _ _).alloc (Nat.le_refl _) _
  unfold maxLen at ha hb
  rcases (show l - an.size < 0 ∨ (0 ≤ l - an.size ∧ l - an.size - ap.size < 0) ∨ (0 ≤ l - an.size ∧ 0 ≤ l - an.size - ap.size) by omega) with h | ⟨h, h'⟩ | ⟨h, h'⟩
  · go_enter Try.func72, Try.ntmps72
    go_wp2
    go_ret
    exact ⟨_, rfl, .inl (by decide), b2⟩
  · go_enter Try.func72, Try.ntmps72
    go_wp2
    go_ret
    exact ⟨_, rfl, .inl (by decide), b2⟩
  · go_enter Try.func72, Try.ntmps72
    go_wp2
    go_ret
    exact ⟨_, rfl, .inr ⟨by omega, by omega, by omega⟩, b2⟩

theorem toEntry_any (a : ByteArray × ByteArray) (w : World) : Calls Try.prog 73 #[.agg #[.string a.1, .string a.2]] w fun e w' => e = .returned (.agg #[.string a.1, .string a.2]) ∧ Below w.heap.size w w' := by
  obtain ⟨an, ap⟩ := a
  simp only
  go_enter Try.func73, Try.ntmps73
  go_wp2
  refine bodyPost_ret (v := .agg #[.string an, .string ap]) (by simp [results, Try.results73, go_sem]) rfl ⟨rfl, ?_⟩
  exact (((Below.refl _ _).alloc (Nat.le_refl _) _).alloc (by simp) _).alloc (by simp; omega) _

set_option maxHeartbeats 1000000 in
set_option maxRecDepth 100000 in
theorem szEntryS_any {v : Value} {rs : List (ByteArray × ByteArray)} {w : World} (h : Sv 2 w v (pairCells rs)) (hs : ∀ p ∈ rs, p.1.size ≤ maxLen ∧ p.2.size ≤ maxLen) (l : Int) (h0 : 0 ≤ l) (h1 : l ≤ 1099511627776) :
    Calls Try.prog 44 #[v, .int .i64 l] w fun e w' => ∃ r : Int, e = .returned (.int .i64 r) ∧ (r < 0 ∨ (0 ≤ r ∧ r ≤ l ∧ (rs.length : Int) ≤ l ∧ ∀ p ∈ rs, (p.1.size : Int) + p.2.size ≤ l)) ∧ Below w.heap.size w w' := by
  obtain ⟨a, ca, rfl, hc1, hc2, hca⟩ := h.pair
  have HS := (show Hid (∀ p ∈ rs, p.1.size ≤ maxLen ∧ p.2.size ≤ maxLen) from hs)
  clear hs h
  unfold maxLen at hc2
  by_cases hl : l - rs.length < 0
  · go_enter Try.func44, Try.ntmps44
    go_wp2
    go_ret
    exact ⟨_, rfl, .inl (by decide), Below.refl _ _⟩
  · have hl2 : 0 ≤ l - rs.length := by omega
    go_enter Try.func44, Try.ntmps44
    go_wp2
    go_loopw [1, 5] (fun q i wr => ∃ (k : Nat) (r : Int), k ≤ rs.length ∧ i = .int .i64 k ∧ q = .int .i64 r ∧ 0 ≤ r ∧ r ≤ l ∧ (∀ p ∈ rs.take k, (p.1.size : Int) + p.2.size ≤ l) ∧ Below w.heap.size w wr) (fun _ i _ => rs.length - (intOf i).toNat)
    case atStart => exact ⟨0, _, Nat.zero_le _, rfl, rfl, hl2, by omega, fun p hp => by simp at hp, Below.refl _ _⟩
    case round =>
      obtain ⟨k, r, hk, rfl, rfl, hr0, hr1, hall, bel⟩ := hrel
      have HA := (show Hid (∀ p ∈ rs.take k, (p.1.size : Int) + p.2.size ≤ l) from hall)
      clear hall
      by_cases hlt : k < rs.length
      · obtain ⟨b1, o1, rfl, l1, c1, c2⟩ := hca k hlt
        have d1 : wr.cell? ⟨b1, o1 + k * 2, none⟩ = some (.string rs[k].1) := (bel.cell (p := ⟨b1, o1 + k * 2, none⟩) l1).trans c1
        have d2 : wr.cell? ⟨b1, o1 + k * 2 + 1, none⟩ = some (.string rs[k].2) := (bel.cell (p := ⟨b1, o1 + k * 2 + 1, none⟩) l1).trans c2
        have hsz := HS.out rs[k] (List.getElem_mem hlt)
        have HT : Hid ((rs[k].1.size : Int) + rs[k].2.size ≤ l → ∀ p ∈ rs.take (k + 1), (p.1.size : Int) + p.2.size ≤ l) := fun hp p hp' => by
          rw [List.take_succ_eq_append_getElem hlt] at hp'
          rcases List.mem_append.mp hp' with h | h
          · exact HA.out p h
          · rw [List.mem_singleton.mp h]; exact hp
        obtain ⟨x, hx⟩ : ∃ x, x = rs[k] := ⟨_, rfl⟩
        rw [← hx] at d1 d2 hsz HT
        clear hx c1 c2
        have CC := (show Hid (∀ w, Calls Try.prog 72 #[.agg #[.string x.1, .string x.2], .int .i64 r] w fun e w' => ∃ q : Int, e = .returned (.int .i64 q) ∧ (q < 0 ∨ (0 ≤ q ∧ q ≤ r ∧ (x.1.size : Int) + x.2.size ≤ r)) ∧ Below w.heap.size w w') from fun w => szEntry_any x r w hr0 (by omega) hsz.1 hsz.2)
        clear hsz
        go_wp2_with fail
        go_at_call 72
        refine (CC.out _).mono ?_
        rintro e w2 ⟨q, rfl, hq, b2⟩
        replace b2 := bel.trans (b2.mono bel.size)
        clear d1 d2
        rcases hq with hq | ⟨hq0, hq1, hq2⟩
        · go_wp2
          go_ret
          exact ⟨_, rfl, .inl (by decide), b2⟩
        · go_wp2
          go_roundw
          case rel => exact ⟨k + 1, _, by omega, by go_num, rfl, hq0, by omega, HT.out (by omega), b2⟩
          case measure => simp [intOf]; omega
      · have hke : k = rs.length := by omega
        have hall : ∀ p ∈ rs, (p.1.size : Int) + p.2.size ≤ l := by have := HA.out; rw [hke, List.take_length] at this; exact this
        have HL := (show Hid _ from hall)
        clear hall
        go_wp2
        go_ret
        exact ⟨_, rfl, .inr ⟨hr0, hr1, by omega, HL.out⟩, bel⟩

set_option maxHeartbeats 2000000 in
set_option maxRecDepth 100000 in
theorem toEntryS_any {v : Value} {rs : List (ByteArray × ByteArray)} {w : World} (h : Sv 2 w v (pairCells rs)) (hn : rs.length ≤ 1048576) :
    Calls Try.prog 46 #[v] w fun e w' => ∃ v', e = .returned v' ∧ w'.ownsRow w.heap.size 41 2 v' rs.length (pairCells rs) ∧ Below w.heap.size w w' := by
  obtain ⟨a, ca, rfl, _, _, hca⟩ := h.pair
  clear h
  obtain ⟨i0, hi, hz0, hz1, hz2⟩ := info_parts Try.infoEnt
  go_enter Try.func46, Try.ntmps46
  go_wp2_with (at_make; refine wpList_make_full _ rfl (.tmp 6) (.tmp 6) 37 rfl w.heap.size 41 i0 _ 2 Try.underlying37 hi hz0 hz1 .i64 .i64 _ _ rs.length rfl rfl rfl rfl (by rw [hz2]; omega) (by unfold maxLen; omega) (Nat.le_refl _) ?_; intro w1 o1 g1)
  have b1 : Below w.heap.size w w1 := (Below.refl _ _).grown g1 (Nat.le_refl _) (fun k hk => by cases hk)
  go_loopw [4] (fun i wr => ∃ (k : Nat) (cs : List Value), k ≤ rs.length ∧ i = .int .i64 k ∧ wr.ownsRow w.heap.size 41 2 (.slice (some ⟨w.heap.size, 0, none⟩) rs.length rs.length) rs.length cs ∧ cs.take (k * 2) = pairCells (rs.take k) ∧ Below w.heap.size w wr) (fun i _ => rs.length - (intOf i).toNat)
  case atStart => exact ⟨0, _, Nat.zero_le _, rfl, o1, by simp [pairCells], b1⟩
  case round =>
    clear o1 g1 b1
    obtain ⟨k, cs, hk, rfl, own, htk, bel⟩ := hrel
    have hcl : cs.length = rs.length * 2 := own.1
    by_cases hlt : k < rs.length
    · obtain ⟨b1, o1, rfl, l1, c1, c2⟩ := hca k hlt
      have d1 : wr.cell? ⟨b1, o1 + k * 2, none⟩ = some (.string rs[k].1) := (bel.cell (p := ⟨b1, o1 + k * 2, none⟩) l1).trans c1
      have d2 : wr.cell? ⟨b1, o1 + k * 2 + 1, none⟩ = some (.string rs[k].2) := (bel.cell (p := ⟨b1, o1 + k * 2 + 1, none⟩) l1).trans c2
      have HTS := (show Hid _ from pair_take_set hlt hcl htk)
      obtain ⟨x, hx⟩ : ∃ x, x = rs[k] := ⟨_, rfl⟩
      rw [← hx] at d1 d2 HTS
      have OW := (show Hid (wr.ownsRow w.heap.size 41 2 (.slice (some ⟨w.heap.size, 0, none⟩) rs.length rs.length) rs.length cs) from own)
      clear hx c1 c2 htk own
      go_wp2_with fail
      go_at_call 73
      refine (toEntry_any x _).mono ?_
      rintro e w2 ⟨rfl, b2⟩
      have o2 : w2.ownsRow w.heap.size 41 2 (.slice (some ⟨w.heap.size, 0, none⟩) rs.length rs.length) rs.length cs := by
        obtain ⟨a1, a2 | ⟨g', c', cu', e1, e2, e3, e4⟩⟩ := OW.out
        · cases a2.1
        · cases e1
          exact ⟨a1, .inr ⟨_, _, cu', rfl, e2, by rw [b2.block _ (lt_of_block e3)]; exact e3, e4⟩⟩
      replace b2 := bel.trans (b2.mono bel.size)
      obtain ⟨z1, hc1⟩ : ∃ z, w2.cell? ⟨w.heap.size, k * 2, none⟩ = some z := by
        rw [o2.cellAt (k * 2) (by omega)]; exact ⟨_, List.getElem?_eq_getElem (by omega)⟩
      have f1 := o2.frozenAt (k * 2)
      obtain ⟨z2, hc2⟩ : ∃ z, w2.cell? ⟨w.heap.size, k * 2 + 1, none⟩ = some z := by
        rw [o2.cellAt (k * 2 + 1) (by omega)]; exact ⟨_, List.getElem?_eq_getElem (by omega)⟩
      have f2 := o2.frozenAt (k * 2 + 1)
      have s1 := o2.stored (k * 2) (.string x.1)
      have s2 := s1.1.stored (k * 2 + 1) (.string x.2)
      have S2 := (show Hid _ from s2)
      clear s1 s2 o2 d1 d2
      go_wp2
      go_roundw
      case rel => exact ⟨k + 1, _, by omega, by go_num, S2.out.1, HTS.out, (b2.setCell (Nat.le_refl _) _).setCell (Nat.le_refl _) _⟩
      case measure => simp [intOf]; omega
    · have hke : k = rs.length := by omega
      have hcs : cs = pairCells rs := by rw [hke, List.take_length, ← hcl, List.take_length] at htk; exact htk
      subst hcs
      go_wp2
      go_ret
      exact ⟨_, rfl, own, bel⟩

set_option maxHeartbeats 2000000 in
set_option maxRecDepth 100000 in
theorem markEntryS_any {B : Nat} {v : Value} {rs : List (ByteArray × ByteArray)} {w : World} (h : w.ownsRow B 41 2 v rs.length (pairCells rs)) (k0 : Int) (h0 : 0 ≤ k0) (hk : k0 ≤ 4000000) (hn : rs.length ≤ 4000000) :
    Calls Try.prog 42 #[v, .int .i64 k0] w fun e w' => e = .returned (.int .i64 (k0 + 2 * rs.length)) ∧ w'.ownsRow B 41 2 v rs.length (pairCells (markPairs k0 rs.length)) ∧ w.grownBy w' v.ownBlock := by
  have h' := h
  obtain ⟨hl, ⟨hv, hz⟩ | ⟨g, cap, cur, hv, hB, hh, hn', hm, hz, ht⟩⟩ := h'
  · subst hv
    have hr : rs = [] := List.length_eq_zero_iff.mp hz
    subst hr
    go_enter Try.func42, Try.ntmps42
    go_wp2
    go_loop [1, 5] (fun q i => i = .int .i64 0 ∧ q = .int .i64 k0) (fun _ _ => 0)
    case atStart => exact ⟨rfl, rfl⟩
    case round =>
      obtain ⟨rfl, rfl⟩ := hrel
      go_wp2
      go_ret
      exact ⟨ret_int (by simp), h, World.grownBy.refl _ _⟩
  · subst hv
    clear hh ht hz hl
    go_enter Try.func42, Try.ntmps42
    go_wp2
    go_loopw [1, 5] (fun q i wr => ∃ k : Nat, k ≤ rs.length ∧ i = .int .i64 k ∧ q = .int .i64 (k0 + 2 * k) ∧ wr.ownsRow B 41 2 (.slice (some ⟨g, 0, none⟩) rs.length cap) rs.length (pairCells (markPairs k0 k ++ rs.drop k)) ∧ w.grownBy wr (some g)) (fun _ i _ => rs.length - (intOf i).toNat)
    case atStart => exact ⟨0, Nat.zero_le _, rfl, by go_num, h, World.grownBy.refl _ _⟩
    case round =>
      clear h
      obtain ⟨k, hk', rfl, rfl, hown, hgr⟩ := hrel
      by_cases hlt : k < rs.length
      · have HO := (show Hid _ from hown)
        have HG := (show Hid _ from hgr)
        clear hown hgr
        go_wp2_with fail
        go_at_call 70
        refine (markText_any _ _ (by omega)).mono ?_
        rintro e w2 ⟨rfl, b2⟩
        have hlen : (markPairs k0 k ++ rs.drop k).length = rs.length := by simp [markPairs_len]; omega
        have o2 : w2.ownsRow B 41 2 (.slice (some ⟨g, 0, none⟩) rs.length cap) rs.length (pairCells (markPairs k0 k ++ rs.drop k)) := by
          obtain ⟨a1, a2 | ⟨g', c', cu', e1, e2, e3, e4⟩⟩ := HO.out
          · cases a2.1
          · cases e1
            exact ⟨a1, .inr ⟨g, cap, cu', rfl, e2, by rw [b2.block g (lt_of_block e3)]; exact e3, e4⟩⟩
        have hl2 := pairCells_len (markPairs k0 k ++ rs.drop k)
        obtain ⟨z1, hc1⟩ : ∃ z, w2.cell? ⟨g, k * 2, none⟩ = some z := by
          rw [o2.cellAt (k * 2) (by omega)]; exact ⟨_, List.getElem?_eq_getElem (by omega)⟩
        have f1 := o2.frozenAt (k * 2)
        have s1 := o2.stored (k * 2) (.string (mt (k0 + 2 * k)))
        have S1 := (show Hid _ from s1)
        clear s1 o2
        go_wp2_with fail
        go_at_call 70
        refine (markText_any _ _ (by omega)).mono ?_
        rintro e w3 ⟨rfl, b3⟩
        have o3 : w3.ownsRow B 41 2 (.slice (some ⟨g, 0, none⟩) rs.length cap) rs.length ((pairCells (markPairs k0 k ++ rs.drop k)).set (k * 2) (.string (mt (k0 + 2 * k)))) := by
          obtain ⟨a1, a2 | ⟨g', c', cu', e1, e2, e3, e4⟩⟩ := S1.out.1
          · cases a2.1
          · cases e1
            exact ⟨a1, .inr ⟨g, cap, cu', rfl, e2, by rw [b3.block g (lt_of_block e3)]; exact e3, e4⟩⟩
        obtain ⟨z2, hc2⟩ : ∃ z, w3.cell? ⟨g, k * 2 + 1, none⟩ = some z := by
          rw [o3.cellAt (k * 2 + 1) (by omega)]; exact ⟨_, List.getElem?_eq_getElem (by rw [List.length_set]; omega)⟩
        have f2 := o3.frozenAt (k * 2 + 1)
        have s2 := o3.stored (k * 2 + 1) (.string (mt (k0 + 2 * k + 1)))
        rw [pairCells_set _ _ _ _ (by omega), markPairs_succ k0 rs k hlt] at s2
        have S2 := (show Hid _ from s2)
        clear s2 o3
        go_wp2
        go_roundw
        case rel => exact ⟨k + 1, by omega, by go_num, by go_num, S2.out.1, grown_trans (grown_below (grown_trans (grown_below HG.out b2) S1.out.2) b3) S2.out.2⟩
        case measure => simp [intOf]; omega
      · go_wp2
        go_ret
        have hke : k = rs.length := by omega
        rw [hke, List.drop_length, List.append_nil] at hown
        exact ⟨ret_int (by rw [hke]), hown, hgr⟩

set_option maxHeartbeats 2000000 in
set_option maxRecDepth 100000 in
theorem heldEntryS_any {v : Value} {n : Nat} {w : World} (k0 : Int) (h : Sv 2 w v (pairCells (markPairs k0 n))) (h0 : 0 ≤ k0) (hk : k0 ≤ 4000000) (hn : n ≤ 4000000) :
    Calls Try.prog 43 #[v, .int .i64 k0] w fun e w' => e = .returned (.int .i64 (k0 + 2 * n)) ∧ Below w.heap.size w w' := by
  obtain ⟨a, ca, rfl, _, _, hca⟩ := h.pair
  have hlen := markPairs_len k0 n
  rw [hlen]
  go_enter Try.func43, Try.ntmps43
  go_wp2
  go_loopw [1, 5] (fun q i wr => ∃ k : Nat, k ≤ n ∧ i = .int .i64 k ∧ q = .int .i64 (k0 + 2 * k) ∧ Below w.heap.size w wr) (fun _ i _ => n - (intOf i).toNat)
  case atStart => exact ⟨0, Nat.zero_le _, rfl, by go_num, Below.refl _ _⟩
  case round =>
    obtain ⟨k, hk', rfl, rfl, bel⟩ := hrel
    by_cases hlt : k < n
    · obtain ⟨b1, o1, rfl, l1, c1, c2⟩ := hca k (by omega)
      rw [markPairs_at] at c1 c2
      simp only at c1 c2
      have g1 : ∀ m : Wd w.heap.size w, m.w.cell? ⟨b1, o1 + k * 2, none⟩ = some (.string (mt (k0 + 2 * k))) := fun m => (m.below.cell (p := ⟨b1, o1 + k * 2, none⟩) l1).trans c1
      have g2 : ∀ m : Wd w.heap.size w, m.w.cell? ⟨b1, o1 + k * 2 + 1, none⟩ = some (.string (mt (k0 + 2 * k + 1))) := fun m => (m.below.cell (p := ⟨b1, o1 + k * 2 + 1, none⟩) l1).trans c2
      have CC := (show Hid (∀ w, Calls Try.prog 70 #[.int .i64 (k0 + 2 * k)] w fun e w' => e = .returned (.string (mt (k0 + 2 * k))) ∧ Below w.heap.size w w') from fun w => markText_any _ _ (by omega))
      have CD := (show Hid (∀ w, Calls Try.prog 70 #[.int .i64 (k0 + 2 * k + 1)] w fun e w' => e = .returned (.string (mt (k0 + 2 * k + 1))) ∧ Below w.heap.size w w') from fun w => markText_any _ _ (by omega))
      have ne := Wd.any w.heap.size w
      clear c1 c2 hca
      go_wp2
      refine wp_region_below (by kernel_rfl) (by kernel_rfl) bel ?_
      repeat (go_big_quiet_step ((go_at_call 70; exact quiet_below (CC.out _) (Nat.le_refl _))))
      refine wpQuiet_nil ?_
      intro wq hq
      replace hq := Wd.of hq
      go_wp2
      refine wp_region_below (by kernel_rfl) (by kernel_rfl) hq ?_
      repeat (go_big_quiet_step ((go_at_call 70; exact quiet_below (CD.out _) (Nat.le_refl _))))
      refine wpQuiet_nil ?_
      intro wq2 hq2
      replace hq2 := Wd.of hq2
      go_wp2
      go_roundw
      case rel => exact ⟨k + 1, by omega, by go_num, by go_num, hq2⟩
      case measure => simp [intOf]; omega
    · have hke : k = n := by omega
      go_wp2
      go_ret
      exact ⟨ret_int (by rw [hke]), bel⟩
end Go.Proofs.Ytmpgbonolmmcpaa

/- The exact law of IndexOf from its contract. -/
namespace Go.Proofs.Ytmpgbonolmmcpaa
open Go.RowKit
set_option maxRecDepth 100000
set_option linter.unusedVariables false

def ShortR (rs : List PRec) : Prop := rs.length ≤ 1048576 ∧ ∀ p ∈ rs, p.url.size ≤ 1048576 ∧ p.body.size ≤ 1048576
def IndexOfOk : Prop := ∀ (v : Value) (rs : List PRec) (w : World), Sv 3 w v (recCells rs) → ShortR rs → Calls Try.prog 22 #[v] w fun e w' => ∃ v', e = .returned v' ∧ OwnPs w.heap.size w' v' (idxOf rs) ∧ Below w.heap.size w w'

theorem idxOf_len (rs : List PRec) : (idxOf rs).length ≤ rs.length := by
  have := idxN_len rs []
  simpa [idxOf] using this

set_option maxHeartbeats 1000000 in
set_option maxRecDepth 100000 in
theorem fnExactIndexOf_of (H : IndexOfOk) {v : Value} {rs : List PRec} (w : World) (h : Sv 3 w v (recCells rs)) (hs : ∀ p ∈ rs, p.url.size ≤ maxLen ∧ p.body.size ≤ maxLen) :
    Calls Try.prog 9 #[v] w fun e w' => e = .returned (.bool true) ∧ Below w.heap.size w w' := by
  have h0 := h
  have hw := h
  have csz := szRecordS_any h hs 1048576 (by omega) (by omega)
  clear h hs
  go_enter Try.func9, Try.ntmps9
  go_wp2_with fail
  go_at_call 39
  refine (csz).mono ?_
  rintro e w0 ⟨r, rfl, hr, B⟩
  clear csz
  rcases hr with hr | ⟨hr0, hr1, hr2, hr3⟩
  · go_wp2
    go_ret
    exact ⟨rfl, B⟩
  have hsh : ShortR rs := ⟨by omega, fun p hp => by have := hr3 p hp; omega⟩
  have hn : rs.length ≤ 1048576 := hsh.1
  have hl := idxOf_len rs
  have HS := (show Hid (∀ (v : Value) (w : World), Sv 3 w v (recCells rs) → Calls Try.prog 24 #[v] w fun e w' => ∃ v', e = .returned v' ∧ OwnPs w.heap.size w' v' (idxOf rs) ∧ Below w.heap.size w w') from fun v w h => sindexOf_any h hn)
  have HI := (show Hid (∀ (v : Value) (w : World), Sv 3 w v (recCells rs) → Calls Try.prog 22 #[v] w fun e w' => ∃ v', e = .returned v' ∧ OwnPs w.heap.size w' v' (idxOf rs) ∧ Below w.heap.size w w') from fun v w h => H v rs w h hsh)
  obtain ⟨qs, hq⟩ : ∃ q, q = idxOf rs := ⟨_, rfl⟩
  rw [← hq] at HS HI hl
  clear hq H hsh hr2 hr3
  replace h0 := h0.below B
  go_wp2_with fail
  go_at_call 40
  refine (toRecordS_any h0 (by omega)).mono ?_
  rintro e w1 ⟨x1, rfl, ox1, b1⟩
  replace h0 := h0.below b1
  go_wp2_with fail
  go_at_call 24
  refine (HS.out _ _ (sv_of_own ox1)).mono ?_
  rintro e w2 ⟨v1, rfl, o1, b2⟩
  replace h0 := h0.below b2
  replace B := B.trans (b1.mono B.size)
  have hbs := B.size
  replace B := B.trans (b2.mono hbs)
  replace o1 := row_base o1 hbs
  clear ox1 b1 b2 HS hbs
  go_wp2_with fail
  go_at_call 40
  refine (toRecordS_any h0 (by omega)).mono ?_
  rintro e w3 ⟨x0, rfl, ox, b3⟩
  have d1 := row_ne o1 ox
  have hbs := B.size
  replace h0 := h0.below b3
  replace o1 := ownsRow_below o1 b3
  replace B := B.trans (b3.mono hbs)
  replace ox := row_base ox hbs
  clear b3 hbs
  go_wp2_with fail
  go_at_call 22
  refine (HI.out _ _ (sv_of_own ox)).mono ?_
  rintro e w4 ⟨v2, rfl, o2, b4⟩
  have d2 := row_ne ox o2
  have d3 := row_ne o1 o2
  have hbs := B.size
  replace h0 := h0.below b4
  replace o1 := ownsRow_below o1 b4
  replace ox := ownsRow_below ox b4
  replace B := B.trans (b4.mono hbs)
  replace o2 := row_base o2 hbs
  clear b4 hbs
  go_wp2_with fail
  go_at_call 41
  refine (eqEntryS_any (sv_of_own o2) (sv_of_own o1) (by omega) (by omega)).mono ?_
  rintro e w5 ⟨rfl, b5⟩
  rw [decide_eq_true rfl]
  replace h0 := h0.below b5
  replace o1 := ownsRow_below o1 b5
  replace ox := ownsRow_below ox b5
  replace o2 := ownsRow_below o2 b5
  replace B := B.trans (b5.mono B.size)
  clear b5
  go_wp2_with fail
  go_at_call 40
  refine (toRecordS_any h0 (by omega)).mono ?_
  rintro e w6 ⟨x2, rfl, ox2, b6⟩
  replace h0 := h0.below b6
  replace o1 := ownsRow_below o1 b6
  replace ox := ownsRow_below ox b6
  replace o2 := ownsRow_below o2 b6
  replace B := B.trans (b6.mono B.size)
  clear b6
  go_wp2_with fail
  go_at_call 36
  refine (eqRecordS_same (sv_of_own ox) (sv_of_own ox2) (by omega)).mono ?_
  rintro e w7 ⟨rfl, b7⟩
  clear ox2
  replace h0 := h0.below b7
  replace o1 := ownsRow_below o1 b7
  replace ox := ownsRow_below ox b7
  replace o2 := ownsRow_below o2 b7
  replace B := B.trans (b7.mono B.size)
  clear b7
  go_wp2_with fail
  go_at_call 37
  refine (markRecordS_any ox 1 (by omega) (by omega) (by omega)).mono ?_
  rintro e w8 ⟨rfl, oxm, g8⟩
  replace o1 := row_kept o1 g8 d1
  replace o2 := row_kept o2 g8 (fun k j hk hj => (d2 j k hj hk).symm)
  replace B := B.grown g8 B.size (fun k hk => (World.ownsRow.lt ox k hk).1)
  clear g8 d1 d2 ox oxm
  replace h0 := hw.below B
  go_wp2_with fail
  go_at_call 41
  refine (eqEntryS_any (sv_of_own o2) (sv_of_own o1) (by omega) (by omega)).mono ?_
  rintro e w9 ⟨rfl, b9⟩
  rw [decide_eq_true rfl]
  replace h0 := h0.below b9
  replace o1 := ownsRow_below o1 b9
  replace o2 := ownsRow_below o2 b9
  replace B := B.trans (b9.mono B.size)
  clear b9
  go_wp2_with fail
  go_at_call 42
  refine (markEntryS_any o2 1 (by omega) (by omega) (by omega)).mono ?_
  rintro e w10 ⟨rfl, o2m, g10⟩
  replace o1 := row_kept o1 g10 d3
  replace B := B.grown g10 B.size (fun k hk => (World.ownsRow.lt o2 k hk).1)
  replace h0 := hw.below B
  clear g10 d3 o2
  go_wp2_with fail
  go_at_call 43
  refine (heldEntryS_any 1 (sv_of_own o2m) (by omega) (by omega) (by omega)).mono ?_
  rintro e w11 ⟨rfl, b11⟩
  replace h0 := h0.below b11
  replace o1 := ownsRow_below o1 b11
  replace o2m := ownsRow_below o2m b11
  replace B := B.trans (b11.mono B.size)
  clear b11
  go_wp2_with fail
  go_at_call 40
  refine (toRecordS_any h0 (by omega)).mono ?_
  rintro e w12 ⟨x3, rfl, ox3, b12⟩
  replace h0 := h0.below b12
  replace o1 := ownsRow_below o1 b12
  replace o2m := ownsRow_below o2m b12
  replace B := B.trans (b12.mono B.size)
  clear b12
  go_wp2_with fail
  go_at_call 22
  refine (HI.out _ _ (sv_of_own ox3)).mono ?_
  rintro e w13 ⟨v3, rfl, o3, b13⟩
  clear ox3
  replace h0 := h0.below b13
  replace o1 := ownsRow_below o1 b13
  replace o2m := ownsRow_below o2m b13
  replace B := B.trans (b13.mono B.size)
  clear b13
  go_wp2_with fail
  go_at_call 41
  refine (eqEntryS_any (sv_of_own o3) (sv_of_own o1) (by omega) (by omega)).mono ?_
  rintro e w14 ⟨rfl, b14⟩
  rw [decide_eq_true rfl]
  clear o3 o1
  replace o2m := ownsRow_below o2m b14
  replace B := B.trans (b14.mono B.size)
  clear b14
  go_wp2_with fail
  go_at_call 43
  refine (heldEntryS_any 1 (sv_of_own o2m) (by omega) (by omega) (by omega)).mono ?_
  rintro e w15 ⟨rfl, b15⟩
  clear o2m
  replace B := B.trans (b15.mono B.size)
  go_wp2
  go_ret
  exact ⟨rfl, B⟩
end Go.Proofs.Ytmpgbonolmmcpaa

/- Records, plainly: what is packed is read as it was, wherever it stands. No condition. -/
namespace Go.Proofs.Ytmpgbonolmmcpaa
open Go.RowKit
set_option maxRecDepth 100000
set_option linter.unusedVariables false

theorem rdT_at (s : ByteArray) (hs : s.size ≤ 1099511627776) (pre rest : List Int) : rdT (pre ++ textForm s ++ rest) (pre.length : Nat) = some (bs s, ((pre.length + (textForm s).length : Nat) : Int)) := by
  have e : pre ++ textForm s ++ rest = pre ++ form s.size ++ (bs s ++ rest) := by simp [textForm]
  have h1 : rdI (pre ++ textForm s ++ rest) (pre.length : Nat) = some ((s.size : Int), (form s.size).length) := by
    rw [e]; exact rdI_form (by omega) (by omega) pre _
  have hl : (bs s).length = s.size := bs_len s
  have h2 := rdT_fit (p := pre.length + (form s.size).length) h1 (by omega) (by simp [textForm, hl]; omega)
  rw [h2]
  have e3 : ((pre ++ textForm s ++ rest).drop (pre.length + (form s.size).length)).take s.size = bs s := by
    rw [e, List.drop_append_of_le_length (by simp), ← List.length_append, List.drop_length, List.nil_append, ← hl, List.take_left']
    rfl
  rw [e3]
  have e4 : (textForm s).length = (form s.size).length + s.size := by simp [textForm, hl]
  rw [e4]
  congr 2
  omega

/-- What is packed is read as it was. -/
theorem readR_of {r : PRec} (h : recB r = true) (hb : r.body.size ≤ 1099511627776) (pre rest : List Int) : readR (pre ++ recL r ++ rest) (pre.length : Nat) = (r, ((pre.length + (recL r).length : Nat) : Int), true) := by
  obtain ⟨k, u, t⟩ := r
  have hk : k = 1 ∨ (k = 2 ∧ t = emptyS) := by
    simp only [recB, Bool.and_eq_true, Bool.or_eq_true, decide_eq_true_eq, Bool.not_eq_true', Bool.and_eq_false_iff, decide_eq_false_iff_not, Decidable.not_not, ne_eq] at h
    obtain ⟨⟨h1 | h1, _⟩, h3⟩ := h
    · exact .inl h1
    · exact .inr ⟨h1, by rcases h3 with h3 | h3 <;> first | exact absurd h1 h3 | exact h3⟩
  have hu : u.size ≤ 1099511627776 := by
    simp only [recB, urlB, inB, Bool.and_eq_true, decide_eq_true_eq] at h
    omega
  simp only at hb
  rcases hk with rfl | ⟨rfl, rfl⟩
  · have eL : recL ⟨1, u, t⟩ = form 1 ++ textForm u ++ textForm t := by simp [recL]
    rw [eL]
    have h1 : rdI (pre ++ (form 1 ++ textForm u ++ textForm t) ++ rest) (pre.length : Nat) = some (1, (form 1).length) := by
      have e : pre ++ (form 1 ++ textForm u ++ textForm t) ++ rest = pre ++ form 1 ++ (textForm u ++ textForm t ++ rest) := by simp
      rw [e]; exact rdI_form (by omega) (by omega) pre _
    have h2 : rdT (pre ++ (form 1 ++ textForm u ++ textForm t) ++ rest) ((pre.length : Nat) + ((form 1).length : Nat) : Int) = some (bs u, ((pre.length + (form 1).length + (textForm u).length : Nat) : Int)) := by
      have e : pre ++ (form 1 ++ textForm u ++ textForm t) ++ rest = (pre ++ form 1) ++ textForm u ++ (textForm t ++ rest) := by simp
      have := rdT_at u hu (pre ++ form 1) (textForm t ++ rest)
      rw [← e, List.length_append] at this
      exact_mod_cast this
    have h3 : rdT (pre ++ (form 1 ++ textForm u ++ textForm t) ++ rest) ((pre.length + (form 1).length + (textForm u).length : Nat) : Int) = some (bs t, ((pre.length + (form 1).length + (textForm u).length + (textForm t).length : Nat) : Int)) := by
      have e : pre ++ (form 1 ++ textForm u ++ textForm t) ++ rest = (pre ++ form 1 ++ textForm u) ++ textForm t ++ rest := by simp
      have := rdT_at t hb (pre ++ form 1 ++ textForm u) rest
      rw [← e, List.length_append, List.length_append] at this
      exact this
    unfold readR
    simp only [h1, h2, h3, if_true, strOf_bs]
    rw [if_pos h]
    simp only [List.length_append, Nat.add_assoc]
  · have eL : recL ⟨2, u, emptyS⟩ = form 2 ++ textForm u := by simp [recL]
    rw [eL]
    have h1 : rdI (pre ++ (form 2 ++ textForm u) ++ rest) (pre.length : Nat) = some (2, (form 2).length) := by
      have e : pre ++ (form 2 ++ textForm u) ++ rest = pre ++ form 2 ++ (textForm u ++ rest) := by simp
      rw [e]; exact rdI_form (by omega) (by omega) pre _
    have h2 : rdT (pre ++ (form 2 ++ textForm u) ++ rest) ((pre.length : Nat) + ((form 2).length : Nat) : Int) = some (bs u, ((pre.length + (form 2).length + (textForm u).length : Nat) : Int)) := by
      have e : pre ++ (form 2 ++ textForm u) ++ rest = (pre ++ form 2) ++ textForm u ++ rest := by simp
      have := rdT_at u hu (pre ++ form 2) rest
      rw [← e, List.length_append] at this
      exact_mod_cast this
    unfold readR
    simp only [h1, h2, strOf_bs]
    rw [if_neg (by decide), if_pos h]
    simp only [List.length_append, Nat.add_assoc]
end Go.Proofs.Ytmpgbonolmmcpaa
