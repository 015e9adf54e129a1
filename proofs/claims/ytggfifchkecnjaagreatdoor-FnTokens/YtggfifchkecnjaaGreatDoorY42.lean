/- The states of the program's cutter that make a token, but comments (written by mk/icuti.py). No condition. -/
import Derived.Test.YtggfifchkecnjaaGreatDoorY41
namespace Go.Proofs.YtggfifchkecnjaaGreatDoor
open Go.RowKit
set_option maxRecDepth 100000
set_option linter.unusedVariables false

theorem takes_tb {w0 : World} {g : Nat} {v : Value} {xs : List Int} {s : ByteArray} {w : World} {k : Nat} {wr : World} (h : TB w0 g v xs s w k wr) (hy : ∀ y ∈ xs, pointOk y = true) (t : ByteArray) (ht : LowT t) (ht0 : 0 < t.size) :
    Calls Tryz.prog 118 #[.agg #[v, .pointer (some ⟨g, 0, none⟩), .string s], .string t] wr fun e w' => e = .returned (.bool (standsLow xs k (bs t))) ∧ TB w0 g v xs s w (behT xs k t) w' ∧ wr.grownBy w' (some g) := by
  refine (takes_any h.cb.cut hy s t ht ht0).mono ?_
  rintro e w' ⟨rfl, hc, hg⟩
  exact ⟨rfl, h.move hc hg, hg⟩
theorem skip_tb {w0 : World} {g : Nat} {v : Value} {xs : List Int} {s : ByteArray} {w : World} {k : Nat} {wr : World} (h : TB w0 g v xs s w k wr) :
    Calls Tryz.prog 120 #[.agg #[v, .pointer (some ⟨g, 0, none⟩), .string s]] wr fun e w' => e = .returned (.tuple #[]) ∧ TB w0 g v xs s w (skipB xs k) w' := by
  refine (skipBlanks_any h.cb.cut s).mono ?_
  rintro e w' ⟨rfl, hc, hg⟩
  exact ⟨rfl, h.move hc hg⟩
theorem takeUpTo_tb {p : Int → Bool} {f : Nat} (hcall : ∀ args w, (callFunc f args).run Tryz.prog w = .ok (.enter f args) w) (hf : ∀ x w, Calls Tryz.prog f #[.int .i64 x] w fun e w' => e = .returned (.bool (p x)) ∧ Below w.heap.size w w')
    {w0 : World} {g : Nat} {v : Value} {xs : List Int} {s : ByteArray} {w : World} {k : Nat} {wr : World} (h : TB w0 g v xs s w k wr) (hy : ∀ y ∈ xs, pointOk y = true) :
    Calls Tryz.prog 115 #[.agg #[v, .pointer (some ⟨g, 0, none⟩), .string s], .func (.func f) #[] #[]] wr fun e w' => ∃ pa pn pc, e = .returned (.slice pa pn pc) ∧ (∀ W j, Cut w0 g v xs j W → Sl .i64 W (.slice pa pn pc) (sub xs k (upTo p xs k))) ∧ TB w0 g v xs s w (upTo p xs k) w' := by
  refine (takeUpTo_any hcall hf h.cb.cut (nonneg hy) s).mono ?_
  rintro e w' ⟨v', rfl, hs, hc, hg⟩
  obtain ⟨pa, pc, e, _⟩ := hs _ _ hc
  subst e
  exact ⟨pa, _, pc, rfl, hs, h.move hc hg⟩
theorem short_tb {xs : List Int} (hx : xs.length ≤ 3000) {v : Value} {i j : Nat} {w : World} (h : Sl .i64 w v (sub xs i j)) :
    Calls Tryz.prog 114 #[v] w fun e w' => e = .returned (.string (shortOf xs i j)) ∧ Below w.heap.size w w' := shortName_any h (sub_few hx)
theorem restOfTag_tb {w0 : World} {g : Nat} {v : Value} {xs : List Int} {s : ByteArray} {w : World} {k : Nat} {wr : World} (h : TB w0 g v xs s w k wr) (ho : Older wr) (hy : ∀ y ∈ xs, pointOk y = true) :
    Calls Tryz.prog 117 #[.agg #[v, .pointer (some ⟨g, 0, none⟩), .string s]] wr fun e w' => ∃ va rs sf wh j, e = .returned (.tuple #[va, .bool sf, .bool wh]) ∧ TB w0 g v xs s w j w' ∧ w'.ownsRow w.heap.size 81 2 va rs.length (pairCells rs) ∧ TagOut (tagV xs k []) rs sf wh j xs.length := by
  refine (restOfTag_any h.cb.cut ho hy s).mono ?_
  rintro e w' ⟨va, rs, sf, wh, j, rfl, hc, hg, hr, ht⟩
  exact ⟨va, rs, sf, wh, j, rfl, h.move hc hg, row_base hr h.cb.gro.size, ht⟩
theorem lowT_4545 : LowT ⟨#[45, 45]⟩ := ⟨by decide, by decide⟩
theorem lowT_doc : LowT ⟨#[100, 111, 99, 116, 121, 112, 101]⟩ := ⟨by decide, by decide⟩
theorem stands_two (xs : List Int) (k : Nat) (a b : Int) : stands xs k [a, b] = (atL xs k == a && atL xs (k + 1) == b) := by
  unfold stands
  have e : (List.range [a, b].length) = [0, 1] := rfl
  rw [e]
  simp
theorem st_4545 (xs : List Int) (k : Nat) : standsLow xs k (bs ⟨#[45, 45]⟩) = stands xs k [45, 45] := by
  rw [stands_two]; exact low_two (by decide) (by decide) (by decide) (by decide)
theorem st_doc (xs : List Int) (k : Nat) : standsLow xs k (bs ⟨#[100, 111, 99, 116, 121, 112, 101]⟩) = standsLow xs k docL := rfl
theorem upTo_past {xs : List Int} (k : Nat) (hk : k ≤ xs.length) : behT xs (upTo isGr xs k) ⟨#[62]⟩ = past xs (upTo isGr xs k) := by
  refine past_is (c := 62) rfl (st_62 _ _) (by decide) (fun h => ?_)
  cases hp : isGr (atL xs (upTo isGr xs k))
  · have h1 := upTo_next (p := isGr) h hp
    have h2 := upTo_mid (p := isGr) (ys := xs) (i := k) (upTo isGr xs k - k) (upTo isGr xs k) (by have := upTo_ge isGr xs k; omega) (Nat.le_refl _)
    have h3 := upTo_ge isGr xs (upTo isGr xs k + 1)
    omega
  · simpa [isGr] using hp

set_option maxHeartbeats 4000000 in
theorem leads_mark_comment {w0 : World} {g : Nat} {v : Value} {xs : List Int} {i : Nat} (s : ByteArray) (hy : ∀ y ∈ xs, pointOk y = true) (h1 : stands xs i [45, 45] = true) : Leads 73 w0 g v xs s i zeroT 15 (i + 2) := by
  have e1 : standsLow xs i (bs ⟨#[45, 45]⟩) = true := by rw [st_4545]; exact h1
  have e2 : behT xs i ⟨#[45, 45]⟩ = i + 2 := by unfold behT; rw [e1]; rfl
  intro w h
  have htb := tb_new (s := s) h
  have hxl := h.2.2.2.1.1
  have hil := h.2.2.2.1.2
  obtain ⟨w1, hw1⟩ : ∃ z, z = (w.alloc (.cells #[v, .pointer (some ⟨g, 0, none⟩), .string s] 47)).alloc (.cells #[.int .i64 0, .string ⟨#[]⟩, .slice none 0 0, .string ⟨#[]⟩, .bool false] 30) := ⟨_, rfl⟩
  rw [← hw1] at htb
  have T1 := (show Hid (TB w0 g v xs s w i w1) from htb)
  clear htb h
  unfold cutVal
  go_enter Tryz.func73, Tryz.ntmps73
  go_upto_region 1 with fail
  rw [← hw1]
  clear hw1
  obtain ⟨c0, c1, c2⟩ := T1.out.cb.cells
  go_wp2_with fail
  go_at_call 118
  refine (takes_tb T1.out hy _ lowT_4545 (by decide)).mono ?_
  rintro e w2 ⟨rfl, t2, _⟩
  rw [e2] at t2
  rw [e1]
  have T2 := (show Hid _ from t2)
  clear T1 t2 c0 c1 c2
  clear e1 e2
  obtain ⟨x1, x2⟩ := T2.out.exit ((nil_row _ _)) 0 ⟨#[]⟩ ⟨#[]⟩ false
  have X2 := (show Hid _ from x2)
  have X1 := (show Hid _ from x1)
  unfold tokSet at x1
  have X1 := (show Hid _ from x1)
  clear x1 x2
  obtain ⟨⟨p0, p1, p2, p3, p4⟩, q0, q1, q2, q3, q4⟩ := tok_cells T2.out.res
  clear T2
  go_wp2
  (try simp only [Exit.inBlock, Exit.then])
  refine bodyPost_ret (tok_res (f := Tryz.f73) (p := 2) (q := 3) rfl (k := 0) (nm := ⟨#[]⟩) (va := (.slice none 0 0)) (tx := ⟨#[]⟩) (sf := false) rfl rfl X1.out) rfl ?_
  exact ⟨_, rfl, X2.out⟩
set_option maxHeartbeats 4000000 in
theorem leads_mark_doctype {w0 : World} {g : Nat} {v : Value} {xs : List Int} {i : Nat} (s : ByteArray) (hy : ∀ y ∈ xs, pointOk y = true) (h1 : stands xs i [45, 45] = false) (h2 : standsLow xs i docL = true) : Leads 73 w0 g v xs s i zeroT 14 (i + 7) := by
  have e1 : standsLow xs i (bs ⟨#[45, 45]⟩) = false := by rw [st_4545]; exact h1
  have e2 : behT xs i ⟨#[45, 45]⟩ = i := by unfold behT; rw [e1]; rfl
  have e3 : standsLow xs i (bs ⟨#[100, 111, 99, 116, 121, 112, 101]⟩) = true := by rw [st_doc]; exact h2
  have e4 : behT xs i ⟨#[100, 111, 99, 116, 121, 112, 101]⟩ = i + 7 := by unfold behT; rw [e3]; rfl
  intro w h
  have htb := tb_new (s := s) h
  have hxl := h.2.2.2.1.1
  have hil := h.2.2.2.1.2
  obtain ⟨w1, hw1⟩ : ∃ z, z = (w.alloc (.cells #[v, .pointer (some ⟨g, 0, none⟩), .string s] 47)).alloc (.cells #[.int .i64 0, .string ⟨#[]⟩, .slice none 0 0, .string ⟨#[]⟩, .bool false] 30) := ⟨_, rfl⟩
  rw [← hw1] at htb
  have T1 := (show Hid (TB w0 g v xs s w i w1) from htb)
  clear htb h
  unfold cutVal
  go_enter Tryz.func73, Tryz.ntmps73
  go_upto_region 1 with fail
  rw [← hw1]
  clear hw1
  obtain ⟨c0, c1, c2⟩ := T1.out.cb.cells
  go_wp2_with fail
  go_at_call 118
  refine (takes_tb T1.out hy _ lowT_4545 (by decide)).mono ?_
  rintro e w2 ⟨rfl, t2, _⟩
  rw [e2] at t2
  rw [e1]
  have T2 := (show Hid _ from t2)
  clear T1 t2 c0 c1 c2
  obtain ⟨c0, c1, c2⟩ := T2.out.cb.cells
  go_wp2_with fail
  go_at_call 118
  refine (takes_tb T2.out hy _ lowT_doc (by decide)).mono ?_
  rintro e w3 ⟨rfl, t2, _⟩
  rw [e4] at t2
  rw [e3]
  have T3 := (show Hid _ from t2)
  clear T2 t2 c0 c1 c2
  clear e1 e2 e3 e4
  obtain ⟨x1, x2⟩ := T3.out.exit ((nil_row _ _)) 0 ⟨#[]⟩ ⟨#[]⟩ false
  have X2 := (show Hid _ from x2)
  have X1 := (show Hid _ from x1)
  unfold tokSet at x1
  have X1 := (show Hid _ from x1)
  clear x1 x2
  obtain ⟨⟨p0, p1, p2, p3, p4⟩, q0, q1, q2, q3, q4⟩ := tok_cells T3.out.res
  clear T3
  go_wp2
  (try simp only [Exit.inBlock, Exit.then])
  refine bodyPost_ret (tok_res (f := Tryz.f73) (p := 2) (q := 3) rfl (k := 0) (nm := ⟨#[]⟩) (va := (.slice none 0 0)) (tx := ⟨#[]⟩) (sf := false) rfl rfl X1.out) rfl ?_
  exact ⟨_, rfl, X2.out⟩
set_option maxHeartbeats 4000000 in
theorem leads_mark_remark {w0 : World} {g : Nat} {v : Value} {xs : List Int} {i : Nat} (s : ByteArray) (hy : ∀ y ∈ xs, pointOk y = true) (h1 : stands xs i [45, 45] = false) (h2 : standsLow xs i docL = false) : Leads 73 w0 g v xs s i zeroT 13 i := by
  have e1 : standsLow xs i (bs ⟨#[45, 45]⟩) = false := by rw [st_4545]; exact h1
  have e2 : behT xs i ⟨#[45, 45]⟩ = i := by unfold behT; rw [e1]; rfl
  have e3 : standsLow xs i (bs ⟨#[100, 111, 99, 116, 121, 112, 101]⟩) = false := by rw [st_doc]; exact h2
  have e4 : behT xs i ⟨#[100, 111, 99, 116, 121, 112, 101]⟩ = i := by unfold behT; rw [e3]; rfl
  intro w h
  have htb := tb_new (s := s) h
  have hxl := h.2.2.2.1.1
  have hil := h.2.2.2.1.2
  obtain ⟨w1, hw1⟩ : ∃ z, z = (w.alloc (.cells #[v, .pointer (some ⟨g, 0, none⟩), .string s] 47)).alloc (.cells #[.int .i64 0, .string ⟨#[]⟩, .slice none 0 0, .string ⟨#[]⟩, .bool false] 30) := ⟨_, rfl⟩
  rw [← hw1] at htb
  have T1 := (show Hid (TB w0 g v xs s w i w1) from htb)
  clear htb h
  unfold cutVal
  go_enter Tryz.func73, Tryz.ntmps73
  go_upto_region 1 with fail
  rw [← hw1]
  clear hw1
  obtain ⟨c0, c1, c2⟩ := T1.out.cb.cells
  go_wp2_with fail
  go_at_call 118
  refine (takes_tb T1.out hy _ lowT_4545 (by decide)).mono ?_
  rintro e w2 ⟨rfl, t2, _⟩
  rw [e2] at t2
  rw [e1]
  have T2 := (show Hid _ from t2)
  clear T1 t2 c0 c1 c2
  obtain ⟨c0, c1, c2⟩ := T2.out.cb.cells
  go_wp2_with fail
  go_at_call 118
  refine (takes_tb T2.out hy _ lowT_doc (by decide)).mono ?_
  rintro e w3 ⟨rfl, t2, _⟩
  rw [e4] at t2
  rw [e3]
  have T3 := (show Hid _ from t2)
  clear T2 t2 c0 c1 c2
  clear e1 e2 e3 e4
  obtain ⟨x1, x2⟩ := T3.out.exit ((nil_row _ _)) 0 ⟨#[]⟩ ⟨#[]⟩ false
  have X2 := (show Hid _ from x2)
  have X1 := (show Hid _ from x1)
  unfold tokSet at x1
  have X1 := (show Hid _ from x1)
  clear x1 x2
  obtain ⟨⟨p0, p1, p2, p3, p4⟩, q0, q1, q2, q3, q4⟩ := tok_cells T3.out.res
  clear T3
  go_wp2
  (try simp only [Exit.inBlock, Exit.then])
  refine bodyPost_ret (tok_res (f := Tryz.f73) (p := 2) (q := 3) rfl (k := 0) (nm := ⟨#[]⟩) (va := (.slice none 0 0)) (tx := ⟨#[]⟩) (sf := false) rfl rfl X1.out) rfl ?_
  exact ⟨_, rfl, X2.out⟩
set_option maxHeartbeats 4000000 in
theorem leads_remark {w0 : World} {g : Nat} {v : Value} {xs : List Int} {i : Nat} (s : ByteArray) (hy : ∀ y ∈ xs, pointOk y = true) : Leads 74 w0 g v xs s i (remM xs i).1 0 (remM xs i).2 := by
  obtain ⟨e1, he1⟩ : ∃ z, z = upTo isGr xs i := ⟨_, rfl⟩
  have hub := fun h => upTo_past (xs := xs) i h
  obtain ⟨j, hj⟩ : ∃ z, z = past xs e1 := ⟨_, rfl⟩
  obtain ⟨tx, htx⟩ : ∃ z, z = txtOf xs i e1 := ⟨_, rfl⟩
  rw [← he1, ← hj] at hub
  have HM : remM xs i = (remarkT tx, j) := by unfold remM; rw [← he1, ← hj, ← htx]
  rw [HM]
  have HE := (show Hid (e1 = upTo isGr xs i) from he1)
  have HTX := (show Hid (tx = txtOf xs i e1) from htx)
  clear he1 hj HM htx
  intro w h
  have htb := tb_new (s := s) h
  have hxl := h.2.2.2.1.1
  have hil := h.2.2.2.1.2
  obtain ⟨w1, hw1⟩ : ∃ z, z = (w.alloc (.cells #[v, .pointer (some ⟨g, 0, none⟩), .string s] 47)).alloc (.cells #[.int .i64 0, .string ⟨#[]⟩, .slice none 0 0, .string ⟨#[]⟩, .bool false] 30) := ⟨_, rfl⟩
  rw [← hw1] at htb
  have T1 := (show Hid (TB w0 g v xs s w i w1) from htb)
  clear htb h
  unfold cutVal
  go_enter Tryz.func74, Tryz.ntmps74
  go_upto_region 1 with fail
  rw [← hw1]
  clear hw1
  replace hub := hub hil
  obtain ⟨c0, c1, c2⟩ := T1.out.cb.cells
  go_wp2_with fail
  go_at_call 115
  refine (takeUpTo_tb (p := isGr) (f := 119) (fun args w => Tryz.call119 args w) isGreater_any T1.out hy).mono ?_
  rintro e w2 ⟨pa, pn, pc, rfl, sl2, t2⟩
  have T2 := (show Hid _ from t2)
  have SL := (show Hid _ from sl2)
  clear T1 sl2 t2 c0 c1 c2
  rw [← HE.out] at T2 SL
  obtain ⟨c0, c1, c2⟩ := T2.out.cb.cells
  go_wp2_with fail
  go_at_call 118
  refine (takes_tb T2.out hy _ lowT_62 (by decide)).mono ?_
  rintro e w3 ⟨rfl, t2, hg3⟩
  rw [hub] at t2
  have T3 := (show Hid _ from t2)
  have CP := (show Hid _ from iputs_part (SL.out _ _ t2.cb.cut) hxl)
  rw [← HTX.out] at CP
  clear T2 t2 c0 c1 c2 SL hg3 hub
  go_wp2_with fail
  go_at_call 96
  refine Calls.mono CP.out ?_
  rintro e w4 ⟨qa, qn, qc, rfl, hcv, b4⟩
  have T4 := (show Hid _ from T3.out.below b4)
  clear T3 b4 CP
  obtain ⟨x1, x2⟩ := T4.out.exit ((nil_row _ _)) 3 ⟨#[]⟩ tx false
  have X2 := (show Hid _ from x2)
  have X1 := (show Hid _ from x1)
  unfold tokSet at x1
  have X1 := (show Hid _ from x1)
  clear x1 x2
  obtain ⟨⟨p0, p1, p2, p3, p4⟩, q0, q1, q2, q3, q4⟩ := tok_cells T4.out.res
  clear T4
  go_wp2
  (try simp only [Exit.inBlock, Exit.then])
  refine bodyPost_ret (tok_res (f := Tryz.f74) (p := 2) (q := 3) rfl (k := 3) (nm := ⟨#[]⟩) (va := (.slice none 0 0)) (tx := tx) (sf := false) rfl rfl X1.out) rfl ?_
  exact ⟨_, rfl, X2.out⟩
set_option maxHeartbeats 4000000 in
theorem leads_doctype {w0 : World} {g : Nat} {v : Value} {xs : List Int} {i : Nat} (s : ByteArray) (hy : ∀ y ∈ xs, pointOk y = true) : Leads 75 w0 g v xs s i (docM xs i).1 0 (docM xs i).2 := by
  obtain ⟨q, hq⟩ : ∃ z, z = skipB xs i := ⟨_, rfl⟩
  obtain ⟨e1, he1⟩ : ∃ z, z = upTo endWord xs q := ⟨_, rfl⟩
  obtain ⟨e2, he2⟩ : ∃ z, z = upTo isGr xs e1 := ⟨_, rfl⟩
  obtain ⟨j, hj⟩ : ∃ z, z = past xs e2 := ⟨_, rfl⟩
  obtain ⟨nm, hnm⟩ : ∃ z, z = shortOf xs q e1 := ⟨_, rfl⟩
  have hub : i ≤ xs.length → behT xs e2 ⟨#[62]⟩ = j := fun hil => by
    have hq2 : q ≤ xs.length := by rw [hq]; exact (skip_le hil).2
    have he12 : e1 ≤ xs.length := by rw [he1]; exact upTo_le hq2
    have hub := upTo_past (xs := xs) e1 he12
    rwa [← he2, ← hj] at hub
  have HM : docM xs i = (⟨4, nm, [], ⟨#[]⟩, false⟩, j) := by unfold docM; rw [← hq, ← he1, ← he2, ← hj, ← hnm]
  rw [HM]
  have HQ := (show Hid (q = skipB xs i) from hq)
  have HE1 := (show Hid (e1 = upTo endWord xs q) from he1)
  have HE2 := (show Hid (e2 = upTo isGr xs e1) from he2)
  have HNM := (show Hid (nm = shortOf xs q e1) from hnm)
  clear hq he1 he2 hj hnm HM
  intro w h
  have htb := tb_new (s := s) h
  have hxl := h.2.2.2.1.1
  have hil := h.2.2.2.1.2
  obtain ⟨w1, hw1⟩ : ∃ z, z = (w.alloc (.cells #[v, .pointer (some ⟨g, 0, none⟩), .string s] 47)).alloc (.cells #[.int .i64 0, .string ⟨#[]⟩, .slice none 0 0, .string ⟨#[]⟩, .bool false] 30) := ⟨_, rfl⟩
  rw [← hw1] at htb
  have T1 := (show Hid (TB w0 g v xs s w i w1) from htb)
  clear htb h
  unfold cutVal
  go_enter Tryz.func75, Tryz.ntmps75
  go_upto_region 1 with fail
  rw [← hw1]
  clear hw1
  replace hub := hub hil
  obtain ⟨c0, c1, c2⟩ := T1.out.cb.cells
  go_wp2_with fail
  go_at_call 120
  refine (skip_tb T1.out).mono ?_
  rintro e w2 ⟨rfl, t2⟩
  rw [← HQ.out] at t2
  have T2 := (show Hid _ from t2)
  clear T1 t2 c0 c1 c2
  obtain ⟨c0, c1, c2⟩ := T2.out.cb.cells
  go_wp2_with fail
  go_at_call 115
  refine (takeUpTo_tb (p := endWord) (f := 121) (fun args w => Tryz.call121 args w) endsWord_any T2.out hy).mono ?_
  rintro e w3 ⟨pa, pn, pc, rfl, sl2, t2⟩
  have T3 := (show Hid _ from t2)
  have SL := (show Hid _ from sl2)
  clear T2 sl2 t2 c0 c1 c2
  rw [← HE1.out] at T3 SL
  have CS := (show Hid _ from short_tb hxl (SL.out _ _ T3.out.cb.cut))
  rw [← HNM.out] at CS
  go_wp2_with fail
  go_at_call 114
  refine Calls.mono CS.out ?_
  rintro e w4 ⟨rfl, b4⟩
  have T4 := (show Hid _ from T3.out.below b4)
  clear T3 b4 CS SL
  obtain ⟨c0, c1, c2⟩ := T4.out.cb.cells
  go_wp2_with fail
  go_at_call 115
  refine (takeUpTo_tb (p := isGr) (f := 119) (fun args w => Tryz.call119 args w) isGreater_any T4.out hy).mono ?_
  rintro e w5 ⟨pa, pn, pc, rfl, sl2, t2⟩
  have T5 := (show Hid _ from t2)
  have SL := (show Hid _ from sl2)
  clear T4 sl2 t2 c0 c1 c2
  rw [← HE2.out] at T5
  obtain ⟨c0, c1, c2⟩ := T5.out.cb.cells
  clear SL
  go_wp2_with fail
  go_at_call 118
  refine (takes_tb T5.out hy _ lowT_62 (by decide)).mono ?_
  rintro e w6 ⟨rfl, t2, _⟩
  rw [hub] at t2
  have T6 := (show Hid _ from t2)
  clear T5 t2 c0 c1 c2 hub
  obtain ⟨x1, x2⟩ := T6.out.exit ((nil_row _ _)) 4 nm ⟨#[]⟩ false
  have X2 := (show Hid _ from x2)
  have X1 := (show Hid _ from x1)
  unfold tokSet at x1
  have X1 := (show Hid _ from x1)
  clear x1 x2
  obtain ⟨⟨p0, p1, p2, p3, p4⟩, q0, q1, q2, q3, q4⟩ := tok_cells T6.out.res
  clear T6
  go_wp2
  (try simp only [Exit.inBlock, Exit.then])
  refine bodyPost_ret (tok_res (f := Tryz.f75) (p := 2) (q := 3) rfl (k := 4) (nm := nm) (va := (.slice none 0 0)) (tx := ⟨#[]⟩) (sf := false) rfl rfl X1.out) rfl ?_
  exact ⟨_, rfl, X2.out⟩
set_option maxHeartbeats 4000000 in
theorem leads_open_none {w0 : World} {g : Nat} {v : Value} {xs : List Int} {i : Nat} (s : ByteArray) (hy : ∀ y ∈ xs, pointOk y = true) (ho : ∀ W, w0.grownBy W (some g) → Older W) (hn : tagV xs (upTo endTag xs i) [] = none) : Leads 71 w0 g v xs s i zeroT 5 xs.length := by
  intro w h
  have htb := tb_new (s := s) h
  have hxl := h.2.2.2.1.1
  have hil := h.2.2.2.1.2
  obtain ⟨w1, hw1⟩ : ∃ z, z = (w.alloc (.cells #[v, .pointer (some ⟨g, 0, none⟩), .string s] 47)).alloc (.cells #[.int .i64 0, .string ⟨#[]⟩, .slice none 0 0, .string ⟨#[]⟩, .bool false] 30) := ⟨_, rfl⟩
  rw [← hw1] at htb
  have T1 := (show Hid (TB w0 g v xs s w i w1) from htb)
  clear htb h
  unfold cutVal
  go_enter Tryz.func71, Tryz.ntmps71
  go_upto_region 1 with fail
  rw [← hw1]
  clear hw1
  obtain ⟨c0, c1, c2⟩ := T1.out.cb.cells
  go_wp2_with fail
  go_at_call 115
  refine (takeUpTo_tb (p := endTag) (f := 116) (fun args w => Tryz.call116 args w) endsTag_any T1.out hy).mono ?_
  rintro e w2 ⟨pa, pn, pc, rfl, sl2, t2⟩
  have T2 := (show Hid _ from t2)
  have SL := (show Hid _ from sl2)
  clear T1 sl2 t2 c0 c1 c2
  have CS := (show Hid _ from short_tb hxl (SL.out _ _ T2.out.cb.cut))
  skip
  go_wp2_with fail
  go_at_call 114
  refine Calls.mono CS.out ?_
  rintro e w3 ⟨rfl, b3⟩
  have T3 := (show Hid _ from T2.out.below b3)
  clear T2 b3 CS SL
  have CT := restOfTag_tb T3.out (ho _ T3.out.cb.cut.2.2.1) hy
  rw [hn] at CT
  have CT := (show Hid _ from CT)
  obtain ⟨c0, c1, c2⟩ := T3.out.cb.cells
  go_wp2_with fail
  go_at_call 117
  refine Calls.mono CT.out ?_
  rintro e w4 ⟨va, rs, sf, wh, j, rfl, t4, row4, hto⟩
  obtain ⟨rfl, rfl⟩ := hto
  have T4 := (show Hid _ from t4)
  clear T3 CT t4 row4 c0 c1 c2
  obtain ⟨x1, x2⟩ := T4.out.exit ((nil_row _ _)) 0 ⟨#[]⟩ ⟨#[]⟩ false
  have X2 := (show Hid _ from x2)
  have X1 := (show Hid _ from x1)
  unfold tokSet at x1
  have X1 := (show Hid _ from x1)
  clear x1 x2
  obtain ⟨⟨p0, p1, p2, p3, p4⟩, q0, q1, q2, q3, q4⟩ := tok_cells T4.out.res
  clear T4
  go_wp2
  (try simp only [Exit.inBlock, Exit.then])
  refine bodyPost_ret (tok_res (f := Tryz.f71) (p := 2) (q := 3) rfl (k := 0) (nm := ⟨#[]⟩) (va := (.slice none 0 0)) (tx := ⟨#[]⟩) (sf := false) rfl rfl X1.out) rfl ?_
  exact ⟨_, rfl, X2.out⟩
set_option maxHeartbeats 4000000 in
theorem leads_open_some {w0 : World} {g : Nat} {v : Value} {xs : List Int} {i : Nat} (s : ByteArray) (hy : ∀ y ∈ xs, pointOk y = true) (ho : ∀ W, w0.grownBy W (some g) → Older W) {r : List (ByteArray × ByteArray) × Bool × Nat} (hn : tagV xs (upTo endTag xs i) [] = some r) : Leads 71 w0 g v xs s i ⟨5, shortOf xs i (upTo endTag xs i), r.1, ⟨#[]⟩, r.2.1⟩ 0 r.2.2 := by
  obtain ⟨nm, hnm⟩ : ∃ z, z = shortOf xs i (upTo endTag xs i) := ⟨_, rfl⟩
  rw [← hnm]
  have HNM := (show Hid (nm = shortOf xs i (upTo endTag xs i)) from hnm)
  clear hnm
  intro w h
  have htb := tb_new (s := s) h
  have hxl := h.2.2.2.1.1
  have hil := h.2.2.2.1.2
  obtain ⟨w1, hw1⟩ : ∃ z, z = (w.alloc (.cells #[v, .pointer (some ⟨g, 0, none⟩), .string s] 47)).alloc (.cells #[.int .i64 0, .string ⟨#[]⟩, .slice none 0 0, .string ⟨#[]⟩, .bool false] 30) := ⟨_, rfl⟩
  rw [← hw1] at htb
  have T1 := (show Hid (TB w0 g v xs s w i w1) from htb)
  clear htb h
  unfold cutVal
  go_enter Tryz.func71, Tryz.ntmps71
  go_upto_region 1 with fail
  rw [← hw1]
  clear hw1
  obtain ⟨c0, c1, c2⟩ := T1.out.cb.cells
  go_wp2_with fail
  go_at_call 115
  refine (takeUpTo_tb (p := endTag) (f := 116) (fun args w => Tryz.call116 args w) endsTag_any T1.out hy).mono ?_
  rintro e w2 ⟨pa, pn, pc, rfl, sl2, t2⟩
  have T2 := (show Hid _ from t2)
  have SL := (show Hid _ from sl2)
  clear T1 sl2 t2 c0 c1 c2
  have CS := (show Hid _ from short_tb hxl (SL.out _ _ T2.out.cb.cut))
  rw [← HNM.out] at CS
  go_wp2_with fail
  go_at_call 114
  refine Calls.mono CS.out ?_
  rintro e w3 ⟨rfl, b3⟩
  have T3 := (show Hid _ from T2.out.below b3)
  clear T2 b3 CS SL
  have CT := restOfTag_tb T3.out (ho _ T3.out.cb.cut.2.2.1) hy
  rw [hn] at CT
  have CT := (show Hid _ from CT)
  obtain ⟨c0, c1, c2⟩ := T3.out.cb.cells
  go_wp2_with fail
  go_at_call 117
  refine Calls.mono CT.out ?_
  rintro e w4 ⟨va, rs, sf, wh, j, rfl, t4, row4, hto⟩
  obtain ⟨rfl, rfl, rfl, rfl⟩ := hto
  obtain ⟨va1, va2, va3, rfl⟩ := row_slice row4
  have T4 := (show Hid _ from t4)
  have ROW := (show Hid _ from row4)
  clear T3 CT t4 row4 c0 c1 c2
  obtain ⟨x1, x2⟩ := T4.out.exit (ROW.out) 5 nm ⟨#[]⟩ r.2.1
  have X2 := (show Hid _ from x2)
  have X1 := (show Hid _ from x1)
  unfold tokSet at x1
  have X1 := (show Hid _ from x1)
  clear x1 x2
  obtain ⟨⟨p0, p1, p2, p3, p4⟩, q0, q1, q2, q3, q4⟩ := tok_cells T4.out.res
  clear T4
  go_wp2
  (try simp only [Exit.inBlock, Exit.then])
  refine bodyPost_ret (tok_res (f := Tryz.f71) (p := 2) (q := 3) rfl (k := 5) (nm := nm) (va := (.slice va1 va2 va3)) (tx := ⟨#[]⟩) (sf := r.2.1) rfl rfl X1.out) rfl ?_
  exact ⟨_, rfl, X2.out⟩
set_option maxHeartbeats 4000000 in
theorem leads_close_none {w0 : World} {g : Nat} {v : Value} {xs : List Int} {i : Nat} (s : ByteArray) (hy : ∀ y ∈ xs, pointOk y = true) (ho : ∀ W, w0.grownBy W (some g) → Older W) (hn : tagV xs (upTo endTag xs i) [] = none) : Leads 72 w0 g v xs s i zeroT 5 xs.length := by
  intro w h
  have htb := tb_new (s := s) h
  have hxl := h.2.2.2.1.1
  have hil := h.2.2.2.1.2
  obtain ⟨w1, hw1⟩ : ∃ z, z = (w.alloc (.cells #[v, .pointer (some ⟨g, 0, none⟩), .string s] 47)).alloc (.cells #[.int .i64 0, .string ⟨#[]⟩, .slice none 0 0, .string ⟨#[]⟩, .bool false] 30) := ⟨_, rfl⟩
  rw [← hw1] at htb
  have T1 := (show Hid (TB w0 g v xs s w i w1) from htb)
  clear htb h
  unfold cutVal
  go_enter Tryz.func72, Tryz.ntmps72
  go_upto_region 1 with fail
  rw [← hw1]
  clear hw1
  obtain ⟨c0, c1, c2⟩ := T1.out.cb.cells
  go_wp2_with fail
  go_at_call 115
  refine (takeUpTo_tb (p := endTag) (f := 116) (fun args w => Tryz.call116 args w) endsTag_any T1.out hy).mono ?_
  rintro e w2 ⟨pa, pn, pc, rfl, sl2, t2⟩
  have T2 := (show Hid _ from t2)
  have SL := (show Hid _ from sl2)
  clear T1 sl2 t2 c0 c1 c2
  have CS := (show Hid _ from short_tb hxl (SL.out _ _ T2.out.cb.cut))
  skip
  go_wp2_with fail
  go_at_call 114
  refine Calls.mono CS.out ?_
  rintro e w3 ⟨rfl, b3⟩
  have T3 := (show Hid _ from T2.out.below b3)
  clear T2 b3 CS SL
  have CT := restOfTag_tb T3.out (ho _ T3.out.cb.cut.2.2.1) hy
  rw [hn] at CT
  have CT := (show Hid _ from CT)
  obtain ⟨c0, c1, c2⟩ := T3.out.cb.cells
  go_wp2_with fail
  go_at_call 117
  refine Calls.mono CT.out ?_
  rintro e w4 ⟨va, rs, sf, wh, j, rfl, t4, row4, hto⟩
  obtain ⟨rfl, rfl⟩ := hto
  have T4 := (show Hid _ from t4)
  clear T3 CT t4 row4 c0 c1 c2
  obtain ⟨x1, x2⟩ := T4.out.exit ((nil_row _ _)) 0 ⟨#[]⟩ ⟨#[]⟩ false
  have X2 := (show Hid _ from x2)
  have X1 := (show Hid _ from x1)
  unfold tokSet at x1
  have X1 := (show Hid _ from x1)
  clear x1 x2
  obtain ⟨⟨p0, p1, p2, p3, p4⟩, q0, q1, q2, q3, q4⟩ := tok_cells T4.out.res
  clear T4
  go_wp2
  (try simp only [Exit.inBlock, Exit.then])
  refine bodyPost_ret (tok_res (f := Tryz.f72) (p := 2) (q := 3) rfl (k := 0) (nm := ⟨#[]⟩) (va := (.slice none 0 0)) (tx := ⟨#[]⟩) (sf := false) rfl rfl X1.out) rfl ?_
  exact ⟨_, rfl, X2.out⟩
set_option maxHeartbeats 4000000 in
theorem leads_close_some {w0 : World} {g : Nat} {v : Value} {xs : List Int} {i : Nat} (s : ByteArray) (hy : ∀ y ∈ xs, pointOk y = true) (ho : ∀ W, w0.grownBy W (some g) → Older W) {r : List (ByteArray × ByteArray) × Bool × Nat} (hn : tagV xs (upTo endTag xs i) [] = some r) : Leads 72 w0 g v xs s i ⟨6, shortOf xs i (upTo endTag xs i), [], ⟨#[]⟩, false⟩ 0 r.2.2 := by
  obtain ⟨nm, hnm⟩ : ∃ z, z = shortOf xs i (upTo endTag xs i) := ⟨_, rfl⟩
  rw [← hnm]
  have HNM := (show Hid (nm = shortOf xs i (upTo endTag xs i)) from hnm)
  clear hnm
  intro w h
  have htb := tb_new (s := s) h
  have hxl := h.2.2.2.1.1
  have hil := h.2.2.2.1.2
  obtain ⟨w1, hw1⟩ : ∃ z, z = (w.alloc (.cells #[v, .pointer (some ⟨g, 0, none⟩), .string s] 47)).alloc (.cells #[.int .i64 0, .string ⟨#[]⟩, .slice none 0 0, .string ⟨#[]⟩, .bool false] 30) := ⟨_, rfl⟩
  rw [← hw1] at htb
  have T1 := (show Hid (TB w0 g v xs s w i w1) from htb)
  clear htb h
  unfold cutVal
  go_enter Tryz.func72, Tryz.ntmps72
  go_upto_region 1 with fail
  rw [← hw1]
  clear hw1
  obtain ⟨c0, c1, c2⟩ := T1.out.cb.cells
  go_wp2_with fail
  go_at_call 115
  refine (takeUpTo_tb (p := endTag) (f := 116) (fun args w => Tryz.call116 args w) endsTag_any T1.out hy).mono ?_
  rintro e w2 ⟨pa, pn, pc, rfl, sl2, t2⟩
  have T2 := (show Hid _ from t2)
  have SL := (show Hid _ from sl2)
  clear T1 sl2 t2 c0 c1 c2
  have CS := (show Hid _ from short_tb hxl (SL.out _ _ T2.out.cb.cut))
  rw [← HNM.out] at CS
  go_wp2_with fail
  go_at_call 114
  refine Calls.mono CS.out ?_
  rintro e w3 ⟨rfl, b3⟩
  have T3 := (show Hid _ from T2.out.below b3)
  clear T2 b3 CS SL
  have CT := restOfTag_tb T3.out (ho _ T3.out.cb.cut.2.2.1) hy
  rw [hn] at CT
  have CT := (show Hid _ from CT)
  obtain ⟨c0, c1, c2⟩ := T3.out.cb.cells
  go_wp2_with fail
  go_at_call 117
  refine Calls.mono CT.out ?_
  rintro e w4 ⟨va, rs, sf, wh, j, rfl, t4, row4, hto⟩
  obtain ⟨rfl, rfl, rfl, rfl⟩ := hto
  obtain ⟨va1, va2, va3, rfl⟩ := row_slice row4
  have T4 := (show Hid _ from t4)
  have ROW := (show Hid _ from row4)
  clear T3 CT t4 row4 c0 c1 c2
  obtain ⟨x1, x2⟩ := T4.out.exit ((nil_row _ _)) 6 nm ⟨#[]⟩ false
  have X2 := (show Hid _ from x2)
  have X1 := (show Hid _ from x1)
  unfold tokSet at x1
  have X1 := (show Hid _ from x1)
  clear x1 x2
  obtain ⟨⟨p0, p1, p2, p3, p4⟩, q0, q1, q2, q3, q4⟩ := tok_cells T4.out.res
  clear T4
  go_wp2
  (try simp only [Exit.inBlock, Exit.then])
  refine bodyPost_ret (tok_res (f := Tryz.f72) (p := 2) (q := 3) rfl (k := 6) (nm := nm) (va := (.slice none 0 0)) (tx := ⟨#[]⟩) (sf := false) rfl rfl X1.out) rfl ?_
  exact ⟨_, rfl, X2.out⟩
end Go.Proofs.YtggfifchkecnjaaGreatDoor
