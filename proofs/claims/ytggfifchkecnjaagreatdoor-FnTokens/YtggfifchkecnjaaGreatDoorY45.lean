/- The specification's cutter: a tag (written by mk/scut4.py). No condition. -/
import Derived.Test.YtggfifchkecnjaaGreatDoorY40
import Derived.Test.YtggfifchkecnjaaGreatDoorY23
import Derived.Test.YtggfifchkecnjaaGreatDoorY44
namespace Go.Proofs.YtggfifchkecnjaaGreatDoor
open Go.RowKit
set_option maxRecDepth 100000
set_option linter.unusedVariables false

theorem tag_blanks {ys : List Int} (hl : ys.length ≤ 3000) {rs : List (ByteArray × ByteArray)} : ∀ (d k : Nat), ys.length - k ≤ d → tagV ys k rs = tagV ys (skipB ys k) rs := by
  intro d
  induction d with
  | zero => intro k h; unfold skipB; rw [upTo_out (by omega)]
  | succ d ih =>
    intro k h
    by_cases hk : k < ys.length
    · rcases hb : isBlank (atL ys k) with _ | _
      · unfold skipB; rw [upTo_at (by unfold notBlank; rw [hb]; rfl) hk]
      · have h9 : atL ys k = 9 ∨ atL ys k = 10 ∨ atL ys k = 12 ∨ atL ys k = 32 := by
          unfold isBlank at hb; simp at hb; omega
        have he : endTag (atL ys k) = true := by unfold endTag; rw [hb]; rfl
        rw [tag_skip hl hk (by omega) (by omega) he, ih (k + 1) (by omega)]
        unfold skipB
        rw [upTo_next hk (by unfold notBlank; rw [hb]; rfl)]
    · unfold skipB; rw [upTo_out (by omega)]
theorem skip_not {ys : List Int} {k : Nat} (h : k ≤ ys.length) : isBlank (atL ys (skipB ys k)) = false := by
  cases hb : isBlank (atL ys (skipB ys k))
  · rfl
  · have hlt := blank_lt hb
    have hge := (skip_le h).1
    have := upTo_more (p := notBlank) (ys := ys) (i := k) hge (Nat.le_refl _) hlt (by unfold notBlank; rw [hb]; rfl)
    unfold skipB at this; omega
def tagT (kk : Int) (nm : ByteArray) (n : Nat) : Option (List (ByteArray × ByteArray) × Bool × Nat) → TokD × Nat
  | none => (endT, n)
  | some r => (⟨kk, nm, if kk = 6 then [] else r.1, ⟨#[]⟩, if kk = 6 then false else r.2.1⟩, r.2.2)
structure TgAt (w : World) (R T : Nat) (kk : Int) (nm : ByteArray) (va : Value) (sf : Bool) (rs : List (ByteArray × ByteArray)) (wr : World) : Prop where
  bel : Below w.heap.size w wr
  r : wr.heap[R]? = some (.cells #[.int .i64 0, .string ⟨#[]⟩, .slice none 0 0, .string ⟨#[]⟩, .bool false] 30 (0, 0))
  t : wr.heap[T]? = some (.cells #[.int .i64 kk, .string nm, va, .string ⟨#[]⟩, .bool sf] 30 (0, 0))
  row : wr.ownsRow w.heap.size 81 2 va rs.length (pairCells rs)
  lt : R < T
  ge : w.heap.size ≤ R
theorem TgAt.below {w wr wr' : World} {R T : Nat} {kk : Int} {nm : ByteArray} {va : Value} {sf : Bool} {rs : List (ByteArray × ByteArray)} (h : TgAt w R T kk nm va sf rs wr) (b : Below wr.heap.size wr wr') : TgAt w R T kk nm va sf rs wr' :=
  ⟨h.bel.trans (b.mono h.bel.size), (b.block _ (lt_of_block h.r)).trans h.r, (b.block _ (lt_of_block h.t)).trans h.t, ownsRow_below h.row b, h.lt, h.ge⟩
theorem TgAt.attrs {w wr : World} {R T : Nat} {kk : Int} {nm : ByteArray} {va vb : Value} {sf : Bool} {rs qs : List (ByteArray × ByteArray)} (h : TgAt w R T kk nm va sf rs wr) (hb : wr.ownsRow w.heap.size 81 2 vb qs.length (pairCells qs)) : TgAt w R T kk nm vb sf qs (wr.setCell ⟨T, 2, none⟩ vb) :=
  ⟨h.bel.setCell (p := ⟨T, 2, none⟩) (Nat.le_of_lt (Nat.lt_of_le_of_lt h.ge h.lt)) _, (Below.heap_setCell _ _ _ R (show R ≠ T by have := h.lt; omega)).trans h.r, setCell_at (k := 2) h.t, kept_kind hb (set_grown wr T 2 vb) (fun r e => by cases e; exact ⟨_, _, _, h.t, by decide⟩), h.lt, h.ge⟩
theorem TgAt.self {w wr : World} {R T : Nat} {kk : Int} {nm : ByteArray} {va : Value} {sf : Bool} {rs : List (ByteArray × ByteArray)} (h : TgAt w R T kk nm va sf rs wr) (b : Bool) : TgAt w R T kk nm va b rs (wr.setCell ⟨T, 4, none⟩ (.bool b)) :=
  ⟨h.bel.setCell (p := ⟨T, 4, none⟩) (Nat.le_of_lt (Nat.lt_of_le_of_lt h.ge h.lt)) _, (Below.heap_setCell _ _ _ R (show R ≠ T by have := h.lt; omega)).trans h.r, setCell_at (k := 4) h.t, kept_kind h.row (set_grown wr T 4 _) (fun r e => by cases e; exact ⟨_, _, _, h.t, by decide⟩), h.lt, h.ge⟩
theorem tok_out {w wr : World} {R : Nat} (bel : Below w.heap.size w wr) (ge : w.heap.size ≤ R) {x0 x1 x2 x3 x4 : Value} (hr : wr.heap[R]? = some (.cells #[x0, x1, x2, x3, x4] 30 (0, 0))) {vb : Value} {qs : List (ByteArray × ByteArray)} (hb : wr.ownsRow w.heap.size 81 2 vb qs.length (pairCells qs)) (k : Int) (nm tx : ByteArray) (sf : Bool) :
    (tokSet wr R k nm vb tx sf).heap[R]? = some (.cells #[.int .i64 k, .string nm, vb, .string tx, .bool sf] 30 (0, 0)) ∧ (TokIs w.heap.size (tokSet wr R k nm vb tx sf) (tokVal k nm vb tx sf) ⟨k, nm, qs, tx, sf⟩ ∧ Below w.heap.size w (tokSet wr R k nm vb tx sf)) :=
  ⟨tokSet_block hr .., ⟨vb, rfl, tokSet_row hb hr (by decide) ..⟩, tokSet_below bel ge ..⟩

theorem tokc_res {f : Func} {p : Tmp} (hf : f.results = #[.cell p 30]) {tmps : Array Value} {w : World} {b : Nat} {k : Int} {nm : ByteArray} {va : Value} {tx : ByteArray} {sf : Bool} (h4 : tmps.getD p undef = .pointer (some ⟨b, 0, none⟩)) (hb : w.heap[b]? = some (.cells #[.int .i64 k, .string nm, va, .string tx, .bool sf] 30 (0, 0))) :
    (results f tmps).run Tryz.prog w = .ok (tokVal k nm va tx sf) w :=
  results_cell_row hf tmps w b 30 #[.int .i64 k, .string nm, va, .string tx, .bool sf] (0, 0) _ h4 hb Tryz.underlying30 rfl rfl

set_option maxHeartbeats 1000000 in
theorem l5Done_any (k : Int) (nm tx : ByteArray) (a : Option Addr) (n c : Nat) (sf : Bool) (w : World) :
    Calls Tryz.prog 89 #[tokVal k nm (.slice a n c) tx sf] w fun e w' => e = .returned (if k = 6 then tokVal 6 nm (.slice none 0 0) ⟨#[]⟩ false else tokVal k nm (.slice a n c) tx sf) ∧ Below w.heap.size w w' := by
  obtain ⟨w1, hw1⟩ : ∃ z, z = w.alloc (.cells #[.int .i64 k, .string nm, .slice a n c, .string tx, .bool sf] 30) := ⟨_, rfl⟩
  obtain ⟨w2, hw2⟩ : ∃ z, z = w1.alloc (.cells #[.int .i64 0, .string ⟨#[]⟩, .slice none 0 0, .string ⟨#[]⟩, .bool false] 30) := ⟨_, rfl⟩
  have b1 : Below w.heap.size w w1 := by rw [hw1]; exact (Below.refl _ _).alloc (Nat.le_refl _) _
  have b2 : Below w1.heap.size w1 w2 := by rw [hw2]; exact (Below.refl _ _).alloc (Nat.le_refl _) _
  have hs1 : w1.heap.size = w.heap.size + 1 := by rw [hw1, World.size_alloc]
  have g1 : w1.heap[w.heap.size]? = some (.cells #[.int .i64 k, .string nm, .slice a n c, .string tx, .bool sf] 30 (0, 0)) := by rw [hw1]; exact heap_alloc_new _ _
  have P2 := (show Hid (w2.heap[w.heap.size]? = some (.cells #[.int .i64 k, .string nm, .slice a n c, .string tx, .bool sf] 30 (0, 0))) from (b2.block _ (lt_of_block g1)).trans g1)
  have R2 := (show Hid (w2.heap[w.heap.size + 1]? = some (.cells #[.int .i64 0, .string ⟨#[]⟩, .slice none 0 0, .string ⟨#[]⟩, .bool false] 30 (0, 0))) from (show w2.heap[w.heap.size + 1]? = _ by rw [hw2, ← hs1]; exact heap_alloc_new _ _))
  have B2 := (show Hid (Below w.heap.size w w2) from b1.trans (b2.mono b1.size))
  rw [hw1] at hw2
  clear b1 b2 hs1 g1 hw1
  obtain ⟨res, hres⟩ : ∃ z, z = (if k = 6 then tokVal 6 nm (.slice none 0 0) ⟨#[]⟩ false else tokVal k nm (.slice a n c) tx sf) := ⟨_, rfl⟩
  rw [← hres]
  have HRS := (show Hid (res = (if k = 6 then tokVal 6 nm (.slice none 0 0) ⟨#[]⟩ false else tokVal k nm (.slice a n c) tx sf)) from hres)
  clear hres
  unfold tokVal
  go_enter Tryz.func89, Tryz.ntmps89
  go_upto_region 1 with fail
  rw [← hw2]
  clear hw2
  obtain ⟨⟨p0, p1, p2, p3, p4⟩, _⟩ := tok_cells P2.out
  obtain ⟨⟨r0, r1, r2, r3, r4⟩, q0, q1, q2, q3, q4⟩ := tok_cells R2.out
  by_cases h6 : k = 6
  · subst h6
    have o1 := tokSet_block R2.out 6 nm (.slice none 0 0) ⟨#[]⟩ false
    have O2 := (show Hid _ from tokSet_below (b := w.heap.size + 1) B2.out (Nat.le_add_right _ 1) 6 nm (.slice none 0 0) ⟨#[]⟩ false)
    unfold tokSet at o1
    have O1 := (show Hid _ from o1)
    clear o1
    clear P2 R2 B2
    go_wp2
    (try simp only [Exit.inBlock, Exit.then])
    refine bodyPost_ret (tokc_res (f := Tryz.f89) (p := 2) rfl (b := w.heap.size + 1) (k := 6) (nm := nm) (va := .slice none 0 0) (tx := ⟨#[]⟩) (sf := false) rfl O1.out) rfl ?_
    have hr6 : res = tokVal 6 nm (.slice none 0 0) ⟨#[]⟩ false := by rw [HRS.out]; simp
    rw [hr6]
    exact ⟨rfl, O2.out⟩
  · have hk6 : (k == 6) = false := by simp [h6]
    have H6 := (show Hid (¬ k = 6) from h6)
    clear P2 h6
    go_wp2
    (try simp only [Exit.inBlock, Exit.then])
    have o1 := tokSet_block R2.out k nm (.slice a n c) tx sf
    have o2 := tokSet_below (b := w.heap.size + 1) B2.out (Nat.le_add_right _ 1) k nm (.slice a n c) tx sf
    unfold tokSet at o1 o2
    refine bodyPost_ret (tokc_res (f := Tryz.f89) (p := 2) rfl (b := w.heap.size + 1) (k := k) (nm := nm) (va := .slice a n c) (tx := tx) (sf := sf) rfl o1) rfl ?_
    rw [HRS.out, if_neg H6.out]
    exact ⟨rfl, o2⟩

set_option maxHeartbeats 1000000 in
theorem l5Tag_any {v : Value} {xs ys : List Int} {w : World} (h : SPage w v xs ys) (i : Nat) (hi : i ≤ ys.length) (kk : Int) (hkk : kk = 5 ∨ kk = 6) :
    Calls Tryz.prog 48 #[v, .int .i64 i, .int .i64 kk] w fun e w' => ∃ u, e = .returned (.tuple #[u, .int .i64 ((tagM ys kk i).2 : Nat)]) ∧ TokIs w.heap.size w' u (tagM ys kk i).1 ∧ Below w.heap.size w w' := by
  have hlen := h.len
  have hyl : ys.length ≤ 3000 := by rw [hlen]; exact h.few
  have HP := (show Hid (∀ W, Below w.heap.size w W → SPage W v xs ys) from fun W b => h.below b)
  obtain ⟨la, lc, rfl, _⟩ := h.sl
  obtain ⟨e1, he1⟩ : ∃ z, z = upTo endTag ys i := ⟨_, rfl⟩
  obtain ⟨nm, hnm⟩ : ∃ z, z = shortOf ys i e1 := ⟨_, rfl⟩
  have hie : i ≤ e1 := by rw [he1]; exact upTo_ge _ _ _
  have hel : e1 ≤ ys.length := by rw [he1]; exact upTo_le hi
  obtain ⟨tg, htg⟩ : ∃ z, z = tagV ys e1 [] := ⟨_, rfl⟩
  obtain ⟨tM, htM⟩ : ∃ z, z = tagM ys kk i := ⟨_, rfl⟩
  rw [← htM]
  have HM := (show Hid (tM = tagT kk nm ys.length tg) from (show tM = tagT kk nm ys.length tg by
    rw [htM, htg]; unfold tagM tagV
    rw [← he1, ← hnm]
    cases tagF ys (ys.length + 1) e1 [] with
    | none => rfl
    | some r => obtain ⟨a, b, c⟩ := r; rfl))
  have HTG := (show Hid (tagV ys e1 [] = tg) from htg.symm)
  have HE1 := (show Hid (upTo endTag ys i = e1) from he1.symm)
  have HNM := (show Hid (shortOf ys i e1 = nm) from hnm.symm)
  obtain ⟨w1, hw1⟩ : ∃ z, z = w.alloc (.cells #[.int .i64 0, .string ⟨#[]⟩, .slice none 0 0, .string ⟨#[]⟩, .bool false] 30) := ⟨_, rfl⟩
  have B1 := (show Hid (Below w.heap.size w w1) from by rw [hw1]; exact (Below.refl _ _).alloc (Nat.le_refl _) _)
  have GR := (show Hid (w1.heap[w.heap.size]? = some (.cells #[.int .i64 0, .string ⟨#[]⟩, .slice none 0 0, .string ⟨#[]⟩, .bool false] 30 (0, 0))) from (show w1.heap[w.heap.size]? = _ by rw [hw1]; exact heap_alloc_new _ _))
  clear h htg htM he1 hnm
  go_enter Tryz.func48, Tryz.ntmps48
  go_upto_region 1 with fail
  rw [← hw1]
  clear hw1
  go_wp2_with fail
  go_at_call 86
  refine ((HP.out w1 B1.out).until' i (by omega) true 47 62 62 until_tag).mono ?_
  rintro e w2 ⟨rfl, rfl⟩
  rw [HE1.out]
  go_wp2_with fail
  go_at_call 87
  refine ((HP.out w2 B1.out).name i e1 hie hel).mono ?_
  rintro e w3 ⟨rfl, b3⟩
  rw [HNM.out]
  obtain ⟨w4, hw4⟩ : ∃ z, z = w3.alloc (.cells #[.int .i64 kk, .string nm, .slice none 0 0, .string ⟨#[]⟩, .bool false] 30) := ⟨_, rfl⟩
  obtain ⟨T, hT⟩ : ∃ z, z = w3.heap.size := ⟨_, rfl⟩
  have b4 : Below w3.heap.size w3 w4 := by rw [hw4]; exact (Below.refl _ _).alloc (Nat.le_refl _) _
  have TA := (show Hid (TgAt w w.heap.size T kk nm (.slice none 0 0) false [] w4) from ⟨(B1.out.trans (b3.mono B1.out.size)).trans (b4.mono (B1.out.trans (b3.mono B1.out.size)).size), (b4.block _ (Nat.lt_of_lt_of_le (lt_of_block GR.out) b3.size)).trans ((b3.block _ (lt_of_block GR.out)).trans GR.out), by rw [hw4, hT]; exact heap_alloc_new _ _, nil_row _ _, by rw [hT]; exact Nat.lt_of_lt_of_le (lt_of_block GR.out) b3.size, Nat.le_refl _⟩)
  have HW4 := (show Hid (w4 = _) from hw4)
  have HHT := (show Hid (T = w3.heap.size) from hT)
  clear b3 b4 hw4 hT GR B1
  go_upto_region 4 with fail
  rw [← HW4.out, ← HHT.out]
  clear HW4 HHT
  go_loopw [1] (fun u wr => ∃ (k : Nat) (rs : List (ByteArray × ByteArray)) (a : Option Addr) (n c : Nat), k ≤ ys.length ∧ u = .int .i64 k ∧ Hid (TgAt w w.heap.size T kk nm (.slice a n c) false rs wr ∧ Few rs ∧ tagV ys k rs = tg)) (fun u _ => ys.length + 1 - (intOf u).toNat)
  case atStart => exact ⟨e1, [], _, _, _, hel, rfl, TA.out, few_nil, HTG.out⟩
  case round =>
    clear TA
    obtain ⟨k0, rs, a, n, c, hk0, rfl, I⟩ := hrel
    obtain ⟨k, hkk0⟩ : ∃ k, k = skipB ys k0 := ⟨_, rfl⟩
    have hkl : k ≤ ys.length := by rw [hkk0]; exact (skip_le hk0).2
    have hkg : k0 ≤ k := by rw [hkk0]; exact (skip_le hk0).1
    have hbn := skip_not hk0
    rw [← hkk0] at hbn
    have hV := I.out.2.2
    rw [tag_blanks hyl ys.length k0 (by omega), ← hkk0] at hV
    have HV := (show Hid (tagV ys k rs = tg) from hV)
    have HF := (show Hid (Few rs) from I.out.2.1)
    have TG := (show Hid _ from I.out.1)
    have HK := (show Hid (skipB ys k0 = k) from hkk0.symm)
    clear hV hkk0 I
    go_wp2_with fail
    go_at_call 88
    refine ((HP.out wr TG.out.bel).skip k0).mono ?_
    rintro e w5 ⟨rfl, rfl⟩
    rw [HK.out]
    obtain ⟨x, hx⟩ : ∃ x, x = atL ys k := ⟨_, rfl⟩
    have ca := (HP.out w5 TG.out.bel).at' k
    rw [← hx] at ca
    have HX := (show Hid (x = atL ys k) from hx)
    rw [← hx] at hbn
    clear hx
    go_wp2_with fail
    go_at_call 43
    refine ca.mono ?_
    rintro e w6 ⟨rfl, rfl⟩
    clear ca
    have hw1 : IntKind.i64.wrap ((k : Int) + 1) = ((k + 1 : Nat) : Int) := by rw [wrap_fit (by omega) (by omega)]; omega
    have hw2 : IntKind.i64.wrap ((k : Int) + 2) = ((k + 2 : Nat) : Int) := by rw [wrap_fit (by omega) (by omega)]; omega
    by_cases hk : k < ys.length
    · have hx0 : 0 ≤ x := by
        have hr := (HP.out w6 TG.out.bel).ys
        have := ((pointOk_iff _).mp (at_ok (xs := ys) (by rw [hr]; exact clean_all xs) hk)).1
        rw [HX.out]; exact this
      have hxl : ¬ x < 0 := by omega
      by_cases h62 : x = 62
      · have hg := tag_gr (rs := rs) hk (by rw [← HX.out]; exact h62)
        rw [HV.out] at hg
        have HG := (show Hid _ from hg)
        clear hg
        subst h62
        obtain ⟨⟨t0, t1, t2, t3, t4⟩, _⟩ := tok_cells TG.out.t
        go_wp2_with fail
        go_at_call 89
        refine (l5Done_any kk nm ⟨#[]⟩ a n c false _).mono ?_
        rintro e w9 ⟨rfl, b9⟩
        have T9 := (show Hid _ from TG.out.below b9)
        clear TG b9 t0 t1 t2 t3 t4
        obtain ⟨⟨p0, p1, p2, p3, p4⟩, q0, q1, q2, q3, q4⟩ := tok_cells T9.out.r
        rcases hkk with rfl | rfl
        · obtain ⟨o1, o2⟩ := tok_out T9.out.bel T9.out.ge T9.out.r T9.out.row 5 nm ⟨#[]⟩ false
          have O2 := (show Hid _ from o2)
          unfold tokSet at o1
          have O1 := (show Hid _ from o1)
          clear o1 o2 T9
          rw [if_neg (by decide)]
          unfold tokVal
          go_wp2
          (try simp only [Exit.inBlock, Exit.then])
          refine bodyPost_ret (tok_res (f := Tryz.f48) (p := 6) (q := 7) rfl (k := 5) (nm := nm) (va := .slice a n c) (tx := ⟨#[]⟩) (sf := false) rfl rfl O1.out) rfl ?_
          rw [HM.out, HG.out]
          exact ⟨_, rfl, O2.out⟩
        · obtain ⟨o1, o2⟩ := tok_out T9.out.bel T9.out.ge T9.out.r (nil_row _ w.heap.size) 6 nm ⟨#[]⟩ false
          have O2 := (show Hid _ from o2)
          unfold tokSet at o1
          have O1 := (show Hid _ from o1)
          clear o1 o2 T9
          rw [if_pos rfl]
          unfold tokVal
          go_wp2
          (try simp only [Exit.inBlock, Exit.then])
          refine bodyPost_ret (tok_res (f := Tryz.f48) (p := 6) (q := 7) rfl (k := 6) (nm := nm) (va := .slice none 0 0) (tx := ⟨#[]⟩) (sf := false) rfl rfl O1.out) rfl ?_
          rw [HM.out, HG.out]
          exact ⟨_, rfl, O2.out⟩
      · have n62 : (x == 62) = false := by simp [h62]
        by_cases h47 : x = 47
        · have ca2 := (HP.out w6 TG.out.bel).at' (k + 1)
          obtain ⟨y, hy⟩ : ∃ y, y = atL ys (k + 1) := ⟨_, rfl⟩
          rw [← hy] at ca2
          have HY := (show Hid (y = atL ys (k + 1)) from hy)
          clear hy
          have CA2 := (show Hid _ from ca2)
          clear ca2
          by_cases hy62 : y = 62
          · have hg := tag_self (rs := rs) hk (by rw [← HX.out]; exact h47) (by rw [← HY.out]; exact hy62)
            rw [HV.out] at hg
            have HG := (show Hid _ from hg)
            have ny : (y == 62) = true := by simp [hy62]
            clear hg h62
            subst h47
            obtain ⟨⟨t0, t1, t2, t3, t4⟩, s0, s1, s2, s3, s4⟩ := tok_cells TG.out.t
            go_wp2_with fail
            go_at_call 43
            refine Calls.mono CA2.out ?_
            rintro e w7 ⟨rfl, rfl⟩
            have TS := (show Hid _ from TG.out.self true)
            obtain ⟨w8, hw8⟩ : ∃ z, z = w7.setCell ⟨T, 4, none⟩ (.bool true) := ⟨_, rfl⟩
            rw [← hw8] at TS
            clear TG CA2
            go_upto_region 15 with fail
            rw [← hw8]
            clear hw8 t0 t1 t2 t3 t4 s0 s1 s2 s3 s4
            obtain ⟨⟨t0, t1, t2, t3, t4⟩, _⟩ := tok_cells TS.out.t
            go_wp2_with fail
            go_at_call 89
            refine (l5Done_any kk nm ⟨#[]⟩ a n c true _).mono ?_
            rintro e w9 ⟨rfl, b9⟩
            have T9 := (show Hid _ from TS.out.below b9)
            clear TS b9 t0 t1 t2 t3 t4
            obtain ⟨⟨p0, p1, p2, p3, p4⟩, q0, q1, q2, q3, q4⟩ := tok_cells T9.out.r
            rcases hkk with rfl | rfl
            · obtain ⟨o1, o2⟩ := tok_out T9.out.bel T9.out.ge T9.out.r T9.out.row 5 nm ⟨#[]⟩ true
              have O2 := (show Hid _ from o2)
              unfold tokSet at o1
              have O1 := (show Hid _ from o1)
              clear o1 o2 T9
              rw [if_neg (by decide)]
              unfold tokVal
              go_wp2
              (try simp only [Exit.inBlock, Exit.then])
              refine bodyPost_ret (tok_res (f := Tryz.f48) (p := 6) (q := 7) rfl (k := 5) (nm := nm) (va := .slice a n c) (tx := ⟨#[]⟩) (sf := true) rfl rfl O1.out) rfl ?_
              rw [HM.out, HG.out]
              exact ⟨_, rfl, O2.out⟩
            · obtain ⟨o1, o2⟩ := tok_out T9.out.bel T9.out.ge T9.out.r (nil_row _ w.heap.size) 6 nm ⟨#[]⟩ false
              have O2 := (show Hid _ from o2)
              unfold tokSet at o1
              have O1 := (show Hid _ from o1)
              clear o1 o2 T9
              rw [if_pos rfl]
              unfold tokVal
              go_wp2
              (try simp only [Exit.inBlock, Exit.then])
              refine bodyPost_ret (tok_res (f := Tryz.f48) (p := 6) (q := 7) rfl (k := 6) (nm := nm) (va := .slice none 0 0) (tx := ⟨#[]⟩) (sf := false) rfl rfl O1.out) rfl ?_
              rw [HM.out, HG.out]
              exact ⟨_, rfl, O2.out⟩
          · have hg := tag_skip (rs := rs) hyl hk (by rw [← HX.out]; exact h62) (by rw [← HY.out]; exact fun h => hy62 h.2) (by rw [← HX.out, h47]; decide)
            rw [HV.out] at hg
            have HG := (show Hid _ from hg.symm)
            have ny : (y == 62) = false := by simp [hy62]
            clear hg h62 hy62
            subst h47
            go_wp2_with fail
            go_at_call 43
            refine Calls.mono CA2.out ?_
            rintro e w7 ⟨rfl, rfl⟩
            clear CA2
            go_wp2
            go_roundw
            case rel => exact ⟨k + 1, rs, a, n, c, hk, by go_num, TG.out, HF.out, HG.out⟩
            case measure => simp [intOf]; omega
        · have n47 : (x == 47) = false := by simp [h47]
          have he : endTag (atL ys k) = false := by
            rw [← HX.out]; unfold endTag; rw [hbn, n47, n62]; rfl
          have hg := tag_attr (rs := rs) hyl hk (by rw [← HX.out]; exact h62) he
          rw [HV.out] at hg
          obtain ⟨l1, l2, l3, l4⟩ := attrM_le hyl hk
          have co := l5One_any (HP.out w6 TG.out.bel) k hk
          obtain ⟨⟨⟨an, av⟩, aj⟩, ha⟩ : ∃ z, z = attrM ys k := ⟨_, rfl⟩
          rw [← ha] at co hg l1 l2 l3 l4
          simp only at co hg l1 l2 l3 l4
          have CO := (show Hid _ from co)
          have HG := (show Hid _ from hg.symm)
          clear hg he h62 h47 ha co
          go_wp2_with fail
          go_at_call 90
          refine Calls.mono CO.out ?_
          rintro e w7 ⟨rfl, b7⟩
          have T7 := (show Hid _ from TG.out.below b7)
          obtain ⟨w8, hw8⟩ : ∃ z, z = w7.alloc (.cells #[.string an, .string av] 81) := ⟨_, rfl⟩
          have b8 : Below w7.heap.size w7 w8 := by rw [hw8]; exact (Below.refl _ _).alloc (Nat.le_refl _) _
          have T8 := (show Hid _ from T7.out.below b8)
          have FA := (show Hid (Few (attrAdd rs (an, av))) from few_add HF.out l3 l4)
          have CD := (show Hid _ from sattrAdd_any (sv_of_own T8.out.row) (an, av) (by have := HF.out.1; omega) (by show an.size ≤ _; omega) (by show av.size ≤ _; omega))
          have HW8 := (show Hid (w8 = _) from hw8)
          have g8 : w8.heap[w7.heap.size]? = some (.cells #[.string an, .string av] 81 (0, 0)) := by rw [hw8]; exact heap_alloc_new _ _
          have GA := (show Hid _ from g8)
          obtain ⟨⟨t0, t1, t2, t3, t4⟩, _⟩ := tok_cells T7.out.t
          have hlt7 := lt_of_block T7.out.t
          clear CO TG b7 hw8 b8 g8
          go_wp2_with fail
          go_at_call 91
          rw [← HW8.out]
          refine Calls.mono CD.out ?_
          rintro e w9 ⟨vb, rfl, o9, b9⟩
          have T9 := (show Hid _ from T8.out.below b9)
          obtain ⟨ba, bn, bc, rfl⟩ := row_slice o9
          have O9 := (show Hid (w9.ownsRow w.heap.size 81 2 (.slice ba bn bc) (attrAdd rs (an, av)).length (pairCells (attrAdd rs (an, av)))) from row_base o9 T8.out.bel.size)
          have T10 := (show Hid _ from T9.out.attrs O9.out)
          clear t0 t1 t2 t3 t4 hlt7
          obtain ⟨⟨t0, t1, t2, t3, t4⟩, s0, s1, s2, s3, s4⟩ := tok_cells T9.out.t
          clear CD o9 b9 T8 T7 HW8 GA O9 T9
          go_wp2
          go_roundw
          case rel => exact ⟨aj, attrAdd rs (an, av), ba, bn, bc, l2, rfl, T10.out, FA.out, HG.out⟩
          case measure => simp [intOf]; omega
    · have hg := tag_out (rs := rs) (show ys.length ≤ k by omega)
      rw [HV.out] at hg
      have HG := (show Hid _ from hg)
      have hxv : x = -1 := by rw [HX.out]; exact atL_out (by omega)
      obtain ⟨o1, o2⟩ := tok_out (TG.out.bel) TG.out.ge TG.out.r (nil_row w6 w.heap.size) 1 ⟨#[]⟩ ⟨#[]⟩ false
      have O2 := (show Hid _ from o2)
      unfold tokSet at o1
      have O1 := (show Hid _ from o1)
      obtain ⟨⟨p0, p1, p2, p3, p4⟩, q0, q1, q2, q3, q4⟩ := tok_cells TG.out.r
      subst hxv
      clear hg o1 o2 TG
      rw [hlen] at HM
      go_wp2
      (try simp only [Exit.inBlock, Exit.then])
      refine bodyPost_ret (tok_res (f := Tryz.f48) (p := 6) (q := 7) rfl (k := 1) (nm := ⟨#[]⟩) (va := .slice none 0 0) (tx := ⟨#[]⟩) (sf := false) rfl rfl O1.out) rfl ?_
      rw [HM.out, HG.out]
      exact ⟨_, rfl, O2.out⟩
end Go.Proofs.YtggfifchkecnjaaGreatDoor
