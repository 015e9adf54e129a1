/- The states comment and ref of the program's cutter (written by mk/icutl.py). No condition. -/
import Derived.Test.YtggfifchkecnjaaGreatDoorY43
import Derived.Test.YtggfifchkecnjaaGreatDoorY33
import Derived.Test.YtggfifchkecnjaaGreatDoorY40
namespace Go.Proofs.YtggfifchkecnjaaGreatDoor
open Go.RowKit
set_option maxRecDepth 100000
set_option linter.unusedVariables false

theorem commentText_tb {w0 : World} {g : Nat} {v : Value} {xs : List Int} {s : ByteArray} {w : World} {k : Nat} {wr : World} (h : TB w0 g v xs s w k wr) (hy : ∀ y ∈ xs, pointOk y = true) :
    Calls Tryz.prog 122 #[.agg #[v, .pointer (some ⟨g, 0, none⟩), .string s]] wr fun e w' => e = .returned (.string (comV xs k k).1) ∧ TB w0 g v xs s w (comV xs k k).2 w' := by
  refine (commentText_any h.cb.cut hy s).mono ?_
  rintro e w' ⟨rfl, hc, hg⟩
  exact ⟨rfl, h.move hc hg⟩

set_option maxHeartbeats 1000000 in
theorem leads_comment_gr {w0 : World} {g : Nat} {v : Value} {xs : List Int} {i : Nat} (s : ByteArray) (hy : ∀ y ∈ xs, pointOk y = true) (h1 : stands xs i [62] = true) : Leads 76 w0 g v xs s i (remarkT ⟨#[]⟩) 0 (i + 1) := by
  have e1 : standsLow xs i (bs ⟨#[62]⟩) = true := by rw [st_62s]; exact h1
  have e2 : behT xs i ⟨#[62]⟩ = i + 1 := by unfold behT; rw [e1]; rfl
  intro w h
  have htb := tb_new (s := s) h
  have hxl := h.2.2.2.1.1
  have hil := h.2.2.2.1.2
  obtain ⟨w1, hw1⟩ : ∃ z, z = (w.alloc (.cells #[v, .pointer (some ⟨g, 0, none⟩), .string s] 47)).alloc (.cells #[.int .i64 0, .string ⟨#[]⟩, .slice none 0 0, .string ⟨#[]⟩, .bool false] 30) := ⟨_, rfl⟩
  rw [← hw1] at htb
  have T1 := (show Hid (TB w0 g v xs s w i w1) from htb)
  clear htb h
  unfold cutVal
  go_enter Tryz.func76, Tryz.ntmps76
  go_upto_region 1 with fail
  rw [← hw1]
  clear hw1
  obtain ⟨c0, c1, c2⟩ := T1.out.cb.cells
  go_wp2_with fail
  go_at_call 118
  refine (takes_tb T1.out hy _ lowT_62 (by decide)).mono ?_
  rintro e w2 ⟨rfl, t2, _⟩
  rw [e2] at t2
  rw [e1]
  have T2 := (show Hid _ from t2)
  clear T1 t2 c0 c1 c2
  clear e1 e2
  obtain ⟨x1, x2⟩ := T2.out.exit ((nil_row _ _)) 3 ⟨#[]⟩ ⟨#[]⟩ false
  have X2 := (show Hid _ from x2)
  have X1 := (show Hid _ from x1)
  unfold tokSet at x1
  have X1 := (show Hid _ from x1)
  clear x1 x2
  obtain ⟨⟨p0, p1, p2, p3, p4⟩, q0, q1, q2, q3, q4⟩ := tok_cells T2.out.res
  clear T2
  go_wp2
  (try simp only [Exit.inBlock, Exit.then])
  refine bodyPost_ret (tok_res (f := Tryz.f76) (p := 2) (q := 3) rfl (k := 3) (nm := ⟨#[]⟩) (va := (.slice none 0 0)) (tx := ⟨#[]⟩) (sf := false) rfl rfl X1.out) rfl ?_
  exact ⟨_, rfl, X2.out⟩
set_option maxHeartbeats 1000000 in
theorem leads_comment_dash {w0 : World} {g : Nat} {v : Value} {xs : List Int} {i : Nat} (s : ByteArray) (hy : ∀ y ∈ xs, pointOk y = true) (h1 : stands xs i [62] = false) (h2 : stands xs i [45, 62] = true) : Leads 76 w0 g v xs s i (remarkT ⟨#[]⟩) 0 (i + 2) := by
  have e1 : standsLow xs i (bs ⟨#[62]⟩) = false := by rw [st_62s]; exact h1
  have e2 : behT xs i ⟨#[62]⟩ = i := by unfold behT; rw [e1]; rfl
  have e3 : standsLow xs i (bs ⟨#[45, 62]⟩) = true := by rw [st_4562]; exact h2
  have e4 : behT xs i ⟨#[45, 62]⟩ = i + 2 := by unfold behT; rw [e3]; rfl
  intro w h
  have htb := tb_new (s := s) h
  have hxl := h.2.2.2.1.1
  have hil := h.2.2.2.1.2
  obtain ⟨w1, hw1⟩ : ∃ z, z = (w.alloc (.cells #[v, .pointer (some ⟨g, 0, none⟩), .string s] 47)).alloc (.cells #[.int .i64 0, .string ⟨#[]⟩, .slice none 0 0, .string ⟨#[]⟩, .bool false] 30) := ⟨_, rfl⟩
  rw [← hw1] at htb
  have T1 := (show Hid (TB w0 g v xs s w i w1) from htb)
  clear htb h
  unfold cutVal
  go_enter Tryz.func76, Tryz.ntmps76
  go_upto_region 1 with fail
  rw [← hw1]
  clear hw1
  obtain ⟨c0, c1, c2⟩ := T1.out.cb.cells
  go_wp2_with fail
  go_at_call 118
  refine (takes_tb T1.out hy _ lowT_62 (by decide)).mono ?_
  rintro e w2 ⟨rfl, t2, _⟩
  rw [e2] at t2
  rw [e1]
  have T2 := (show Hid _ from t2)
  clear T1 t2 c0 c1 c2
  obtain ⟨c0, c1, c2⟩ := T2.out.cb.cells
  go_wp2_with fail
  go_at_call 118
  refine (takes_tb T2.out hy _ lowT_4562 (by decide)).mono ?_
  rintro e w3 ⟨rfl, t2, _⟩
  rw [e4] at t2
  rw [e3]
  have T3 := (show Hid _ from t2)
  clear T2 t2 c0 c1 c2
  clear e1 e2 e3 e4
  obtain ⟨x1, x2⟩ := T3.out.exit ((nil_row _ _)) 3 ⟨#[]⟩ ⟨#[]⟩ false
  have X2 := (show Hid _ from x2)
  have X1 := (show Hid _ from x1)
  unfold tokSet at x1
  have X1 := (show Hid _ from x1)
  clear x1 x2
  obtain ⟨⟨p0, p1, p2, p3, p4⟩, q0, q1, q2, q3, q4⟩ := tok_cells T3.out.res
  clear T3
  go_wp2
  (try simp only [Exit.inBlock, Exit.then])
  refine bodyPost_ret (tok_res (f := Tryz.f76) (p := 2) (q := 3) rfl (k := 3) (nm := ⟨#[]⟩) (va := (.slice none 0 0)) (tx := ⟨#[]⟩) (sf := false) rfl rfl X1.out) rfl ?_
  exact ⟨_, rfl, X2.out⟩
set_option maxHeartbeats 1000000 in
theorem leads_comment_text {w0 : World} {g : Nat} {v : Value} {xs : List Int} {i : Nat} (s : ByteArray) (hy : ∀ y ∈ xs, pointOk y = true) (h1 : stands xs i [62] = false) (h2 : stands xs i [45, 62] = false) : Leads 76 w0 g v xs s i (remarkT (comV xs i i).1) 0 (comV xs i i).2 := by
  have e1 : standsLow xs i (bs ⟨#[62]⟩) = false := by rw [st_62s]; exact h1
  have e2 : behT xs i ⟨#[62]⟩ = i := by unfold behT; rw [e1]; rfl
  have e3 : standsLow xs i (bs ⟨#[45, 62]⟩) = false := by rw [st_4562]; exact h2
  have e4 : behT xs i ⟨#[45, 62]⟩ = i := by unfold behT; rw [e3]; rfl
  obtain ⟨⟨tx, j⟩, hcv⟩ : ∃ z, z = comV xs i i := ⟨_, rfl⟩
  rw [← hcv]
  have HCV := (show Hid ((tx, j) = comV xs i i) from hcv)
  clear hcv
  simp only
  intro w h
  have htb := tb_new (s := s) h
  have hxl := h.2.2.2.1.1
  have hil := h.2.2.2.1.2
  obtain ⟨w1, hw1⟩ : ∃ z, z = (w.alloc (.cells #[v, .pointer (some ⟨g, 0, none⟩), .string s] 47)).alloc (.cells #[.int .i64 0, .string ⟨#[]⟩, .slice none 0 0, .string ⟨#[]⟩, .bool false] 30) := ⟨_, rfl⟩
  rw [← hw1] at htb
  have T1 := (show Hid (TB w0 g v xs s w i w1) from htb)
  clear htb h
  unfold cutVal
  go_enter Tryz.func76, Tryz.ntmps76
  go_upto_region 1 with fail
  rw [← hw1]
  clear hw1
  obtain ⟨c0, c1, c2⟩ := T1.out.cb.cells
  go_wp2_with fail
  go_at_call 118
  refine (takes_tb T1.out hy _ lowT_62 (by decide)).mono ?_
  rintro e w2 ⟨rfl, t2, _⟩
  rw [e2] at t2
  rw [e1]
  have T2 := (show Hid _ from t2)
  clear T1 t2 c0 c1 c2
  obtain ⟨c0, c1, c2⟩ := T2.out.cb.cells
  go_wp2_with fail
  go_at_call 118
  refine (takes_tb T2.out hy _ lowT_4562 (by decide)).mono ?_
  rintro e w3 ⟨rfl, t2, _⟩
  rw [e4] at t2
  rw [e3]
  have T3 := (show Hid _ from t2)
  clear T2 t2 c0 c1 c2
  clear e1 e2 e3 e4
  have CT := commentText_tb T3.out hy
  rw [← HCV.out] at CT
  have CT := (show Hid _ from CT)
  obtain ⟨c0, c1, c2⟩ := T3.out.cb.cells
  go_wp2_with fail
  go_at_call 122
  refine Calls.mono CT.out ?_
  rintro e w4 ⟨rfl, t4⟩
  have T4 := (show Hid _ from t4)
  clear T3 CT t4 c0 c1 c2
  obtain ⟨x1, x2⟩ := T4.out.exit ((nil_row _ _)) 3 ⟨#[]⟩ tx false
  have X2 := (show Hid _ from x2)
  have X1 := (show Hid _ from x1)
  unfold tokSet at x1
  have X1 := (show Hid _ from x1)
  clear x1 x2
  obtain ⟨⟨p0, p1, p2, p3, p4⟩, q0, q1, q2, q3, q4⟩ := tok_cells T4.out.res
  clear T4
  go_wp2
  (try simp only [Exit.inBlock, Exit.then])
  refine bodyPost_ret (tok_res (f := Tryz.f76) (p := 2) (q := 3) rfl (k := 3) (nm := ⟨#[]⟩) (va := (.slice none 0 0)) (tx := tx) (sf := false) rfl rfl X1.out) rfl ?_
  exact ⟨_, rfl, X2.out⟩
set_option maxHeartbeats 1000000 in
theorem leads_ref {w0 : World} {g : Nat} {v : Value} {xs : List Int} {i : Nat} (s : ByteArray) (hy : ∀ y ∈ xs, pointOk y = true) (ho : ∀ W, w0.grownBy W (some g) → Older W) (hi : i < xs.length) (h38 : atL xs i = 38) : Leads 68 w0 g v xs s i (charT (strOf (puts (refRead xs i false).1))) 0 (refRead xs i false).2.toNat := by
  intro w h
  obtain ⟨n, y, he, hkn, hnl, hyo, _⟩ := ref_facts false h.2.2.2.1.1 hi h38
  rw [he]
  simp only [Int.toNat_natCast]
  obtain ⟨a, ca, rfl, hca, hcm, _, _⟩ := h.sl
  have HE := (show Hid (refRead xs i false = ([y], (n : Int))) from he)
  clear he
  have htb := tb_new (s := s) h
  have hxl := h.2.2.2.1.1
  have hil := h.2.2.2.1.2
  obtain ⟨w1, hw1⟩ : ∃ z, z = (w.alloc (.cells #[.slice a xs.length ca, .pointer (some ⟨g, 0, none⟩), .string s] 47)).alloc (.cells #[.int .i64 0, .string ⟨#[]⟩, .slice none 0 0, .string ⟨#[]⟩, .bool false] 30) := ⟨_, rfl⟩
  rw [← hw1] at htb
  have T1 := (show Hid (TB w0 g (.slice a xs.length ca) xs s w i w1) from htb)
  clear htb h
  unfold cutVal
  go_enter Tryz.func68, Tryz.ntmps68
  go_upto_region 1 with fail
  rw [← hw1]
  clear hw1
  have T2 := (show Hid (TB w0 g (.slice a xs.length ca) xs s w i w1.drew) from T1.out.below (below_drewN 1))
  have CR := irefRead_any (ho _ T2.out.cb.cut.2.2.1) T2.out.cb.cut.sl (i : Int) false (wf_i64c (by omega) (by omega)) (by omega)
  rw [HE.out] at CR
  have CR := (show Hid (Calls Tryz.prog 112 #[.slice a xs.length ca, .int .i64 (i : Int), .bool false] w1.drew fun e w' => ∃ xa xn xc, e = .returned (.tuple #[.slice xa xn xc, .int .i64 (n : Int)]) ∧ Own w1.drew.heap.size 3 .i64 w' (.slice xa xn xc) [y] ∧ Below w1.drew.heap.size w1.drew w') from CR.mono (by
    rintro e w' ⟨vx, rfl, ox, b⟩
    obtain ⟨xa, xc, rfl, _⟩ := ox.sl
    exact ⟨_, _, _, rfl, ox, b⟩))
  have z0 : w1.drew.cell? ⟨w.heap.size, 0, none⟩ = some (.slice a xs.length ca) ∧ w1.drew.cell? ⟨w.heap.size, 1, none⟩ = some (.pointer (some ⟨g, 0, none⟩)) ∧ w1.drew.cell? ⟨g, 0, none⟩ = some (.int .i64 i) := ⟨T2.out.cb.cells.1, T2.out.cb.cells.2.1, T2.out.cb.cut.cell.1⟩
  have Z0 := (show Hid _ from z0)
  clear T1 z0
  go_region_held3 (fun w' => w'.cell? ⟨w.heap.size, 0, none⟩ = some (.slice a xs.length ca) ∧ w'.cell? ⟨w.heap.size, 1, none⟩ = some (.pointer (some ⟨g, 0, none⟩)) ∧ w'.cell? ⟨g, 0, none⟩ = some (.int .i64 i))
    (first | with_reducible exact Z0.out | with_reducible exact Z6.out)
    (first
      | (go_at_call 112
         with_reducible refine Calls.mono CR.out ?_
         rintro e w6 ⟨xa, xn, xc, rfl, ox, b6⟩
         have T6 := (show Hid _ from T2.out.below b6)
         have OX := (show Hid _ from ox)
         have Z6 := (show Hid (w6.cell? ⟨w.heap.size, 0, none⟩ = some (.slice a xs.length ca) ∧ w6.cell? ⟨w.heap.size, 1, none⟩ = some (.pointer (some ⟨g, 0, none⟩)) ∧ w6.cell? ⟨g, 0, none⟩ = some (.int .i64 i)) from ⟨T6.out.cb.cells.1, T6.out.cb.cells.2.1, T6.out.cb.cut.cell.1⟩)
         clear b6 ox))
  have ox : Own w1.drew.heap.size 3 .i64 w6 (.slice xa xn xc) [y] := OX.out
  obtain ⟨c0, c1, c2⟩ := T6.out.cb.cells
  obtain ⟨cg, fg⟩ := T6.out.cb.cut.cell
  have hgl1 : g < w1.drew.heap.size := T2.out.cb.cut.lt
  obtain ⟨t1, t2⟩ := T6.out.cb.cut.set n hnl
  have T7 := (show Hid _ from T6.out.move t1 t2)
  have O7 := (show Hid _ from own_past ox t2 hgl1)
  have CP := iputs_any (Own.sl O7.out) (by simp)
  have e2 : pointsPut [y] = puts [y] := by unfold pointsPut; rw [if_pos (by simp)]
  rw [e2] at CP
  have CP := (show Hid _ from CP)
  obtain ⟨w7, hw7⟩ : ∃ z, z = w6.setCell ⟨g, 0, none⟩ (.int .i64 (n : Nat)) := ⟨_, rfl⟩
  rw [← hw7] at T7 CP
  clear CR T2 Z0 Z6 ox OX t1 t2 e2 T6 O7 hgl1
  go_wp2_with fail
  rw [← hw7]
  clear hw7 c0 c1 c2 cg fg
  go_at_call 96
  refine Calls.mono CP.out ?_
  rintro e w8 ⟨vp, rfl, op, b8⟩
  have hcv := conv_sl op.sl
  obtain ⟨pa, pc, rfl, _⟩ := op.sl
  have T8 := (show Hid _ from T7.out.below b8)
  obtain ⟨tx, htx⟩ : ∃ z, z = strOf (puts [y]) := ⟨_, rfl⟩
  rw [← htx] at hcv
  have HTX := (show Hid (strOf (puts [y]) = tx) from htx.symm)
  clear CP T7 b8 op htx
  obtain ⟨x1, x2⟩ := T8.out.exit ((nil_row _ _)) 2 ⟨#[]⟩ tx false
  have X2 := (show Hid _ from x2)
  have X1 := (show Hid _ from x1)
  unfold tokSet at x1
  have X1 := (show Hid _ from x1)
  clear x1 x2
  obtain ⟨⟨p0, p1, p2, p3, p4⟩, q0, q1, q2, q3, q4⟩ := tok_cells T8.out.res
  clear T8
  go_wp2
  (try simp only [Exit.inBlock, Exit.then])
  refine bodyPost_ret (tok_res (f := Tryz.f68) (p := 2) (q := 3) rfl (k := 2) (nm := ⟨#[]⟩) (va := (.slice none 0 0)) (tx := tx) (sf := false) rfl rfl X1.out) rfl ?_
  rw [HTX.out]
  exact ⟨_, rfl, X2.out⟩
end Go.Proofs.YtggfifchkecnjaaGreatDoor

/- The program's cutter: from the state data to a token. No condition. -/
namespace Go.Proofs.YtggfifchkecnjaaGreatDoor
open Go.RowKit
set_option maxRecDepth 100000
set_option linter.unusedVariables false

theorem goes_last {w0 : World} {g : Nat} {v : Value} {xs : List Int} {s : ByteArray} {t : TokD} {i j m n f : Nat} (hf : cutFns.getD (n - 1) 0 = f) (hn : 0 < n ∧ n < 16) (h : Leads f w0 g v xs s i t 0 j) : Goes w0 g v xs s t j (m + 1) n i := by
  unfold Goes
  rw [hf]
  refine ⟨hn, fun w hc => (h w hc).mono ?_⟩
  rintro e w' ⟨u, rfl, h1, h2, h3⟩
  exact ⟨u, t, 0, j, rfl, h1, h2, h3, .inl ⟨rfl, rfl, rfl⟩⟩
theorem goes_step {w0 : World} {g : Nat} {v : Value} {xs : List Int} {s : ByteArray} {t t' : TokD} {i i' j m n n' f : Nat} (hf : cutFns.getD (n - 1) 0 = f) (hn : 0 < n ∧ n < 16) (h : Leads f w0 g v xs s i t' n' i') (hn' : 0 < n') (k : Goes w0 g v xs s t j m n' i') : Goes w0 g v xs s t j (m + 1) n i := by
  unfold Goes
  rw [hf]
  refine ⟨hn, fun w hc => (h w hc).mono ?_⟩
  rintro e w' ⟨u, rfl, h1, h2, h3⟩
  exact ⟨u, t', n', i', rfl, h1, h2, h3, .inr ⟨hn', k⟩⟩
structure Page (w0 : World) (g : Nat) (v : Value) (xs : List Int) : Prop where
  ok : ∀ y ∈ xs, pointOk y = true
  few : xs.length ≤ 3000
  old : ∀ W, w0.grownBy W (some g) → Older W
theorem go_rem {w0 : World} {g : Nat} {v : Value} {xs : List Int} (s : ByteArray) (hp : Page w0 g v xs) (i : Nat) : Goes w0 g v xs s (remM xs i).1 (remM xs i).2 1 13 i := goes_last rfl ⟨by decide, by decide⟩ (leads_remark s hp.ok)
theorem go_com {w0 : World} {g : Nat} {v : Value} {xs : List Int} (s : ByteArray) (hp : Page w0 g v xs) (i : Nat) : Goes w0 g v xs s (comM xs i).1 (comM xs i).2 1 15 i := by
  unfold comM
  rcases h1 : stands xs i [62] with _ | _
  · rw [if_neg (by decide)]
    rcases h2 : stands xs i [45, 62] with _ | _
    · rw [if_neg (by decide)]; exact goes_last rfl ⟨by decide, by decide⟩ (leads_comment_text s hp.ok h1 h2)
    · rw [if_pos rfl]; exact goes_last rfl ⟨by decide, by decide⟩ (leads_comment_dash s hp.ok h1 h2)
  · rw [if_pos rfl]; exact goes_last rfl ⟨by decide, by decide⟩ (leads_comment_gr s hp.ok h1)
theorem go_doc {w0 : World} {g : Nat} {v : Value} {xs : List Int} (s : ByteArray) (hp : Page w0 g v xs) (i : Nat) : Goes w0 g v xs s (docM xs i).1 (docM xs i).2 1 14 i := goes_last rfl ⟨by decide, by decide⟩ (leads_doctype s hp.ok)
theorem go_mark {w0 : World} {g : Nat} {v : Value} {xs : List Int} (s : ByteArray) (hp : Page w0 g v xs) (i : Nat) : Goes w0 g v xs s (markM xs i).1 (markM xs i).2 2 12 i := by
  unfold markM
  rcases h1 : stands xs i [45, 45] with _ | _
  · rw [if_neg (by decide)]
    rcases h2 : standsLow xs i docL with _ | _
    · rw [if_neg (by decide)]; exact goes_step rfl ⟨by decide, by decide⟩ (leads_mark_remark s hp.ok h1 h2) (by decide) (go_rem s hp i)
    · rw [if_pos rfl]; exact goes_step rfl ⟨by decide, by decide⟩ (leads_mark_doctype s hp.ok h1 h2) (by decide) (go_doc s hp (i + 7))
  · rw [if_pos rfl]; exact goes_step rfl ⟨by decide, by decide⟩ (leads_mark_comment s hp.ok h1) (by decide) (go_com s hp (i + 2))
theorem go_end {w0 : World} {g : Nat} {v : Value} {xs : List Int} (s : ByteArray) (i m : Nat) : Goes w0 g v xs s endT i (m + 1) 5 i := goes_last rfl ⟨by decide, by decide⟩ (leads_end s)
theorem go_open {w0 : World} {g : Nat} {v : Value} {xs : List Int} (s : ByteArray) (hp : Page w0 g v xs) (i : Nat) : Goes w0 g v xs s (tagM xs 5 i).1 (tagM xs 5 i).2 2 10 i := by
  unfold tagM
  rcases ht : tagF xs (xs.length + 1) (upTo endTag xs i) [] with _ | ⟨rs, sf, j⟩
  · exact goes_step rfl ⟨by decide, by decide⟩ (leads_open_none s hp.ok hp.old ht) (by decide) (go_end s _ 0)
  · exact goes_last rfl ⟨by decide, by decide⟩ (leads_open_some s hp.ok hp.old ht)
theorem go_close {w0 : World} {g : Nat} {v : Value} {xs : List Int} (s : ByteArray) (hp : Page w0 g v xs) (i : Nat) : Goes w0 g v xs s (tagM xs 6 i).1 (tagM xs 6 i).2 2 11 i := by
  unfold tagM
  rcases ht : tagF xs (xs.length + 1) (upTo endTag xs i) [] with _ | ⟨rs, sf, j⟩
  · exact goes_step rfl ⟨by decide, by decide⟩ (leads_close_none s hp.ok hp.old ht) (by decide) (go_end s _ 0)
  · exact goes_last rfl ⟨by decide, by decide⟩ (leads_close_some s hp.ok hp.old ht)
theorem go_char {w0 : World} {g : Nat} {v : Value} {xs : List Int} (s : ByteArray) {i : Nat} (hi : i < xs.length) (m : Nat) : Goes w0 g v xs s (charM xs i).1 (charM xs i).2 (m + 1) 6 i := by
  have := goes_char (w0 := w0) (g := g) (v := v) (s := s) (m := m) hi
  unfold charM charT
  rw [atL_in hi]
  exact this
theorem go_data {w0 : World} {g : Nat} {v : Value} {xs : List Int} (s : ByteArray) (hp : Page w0 g v xs) : ∀ (f i : Nat), i ≤ xs.length → xs.length - i < f → ∃ m, Goes w0 g v xs s (tokM xs f i).1 (tokM xs f i).2 m 1 i := by
  intro f
  induction f with
  | zero => intro i _ h; omega
  | succ f ih =>
    intro i hil h
    rw [tokM]
    by_cases hi : xs.length ≤ i
    · rw [if_pos hi]
      have e : i = xs.length := by omega
      subst e
      exact ⟨2, goes_step rfl ⟨by decide, by decide⟩ (leads_data_out s (atL_out (Nat.le_refl _))) (by decide) (go_end s _ 0)⟩
    rw [if_neg hi]
    by_cases h38 : atL xs i = 38
    · rw [if_pos h38]
      exact ⟨2, goes_step rfl ⟨by decide, by decide⟩ (leads_data_ref s h38) (by decide) (goes_last rfl ⟨by decide, by decide⟩ (leads_ref s hp.ok hp.old (by omega) h38))⟩
    rw [if_neg h38]
    have hne : atL xs i ≠ -1 := fun e => by
      have := ((pointOk_iff _).mp (at_ok hp.ok (show i < xs.length by omega))).1
      omega
    by_cases h60 : atL xs i ≠ 60
    · rw [if_pos h60]
      exact ⟨2, goes_step rfl ⟨by decide, by decide⟩ (leads_data_char s hne h38 h60) (by decide) (go_char s (by omega) 0)⟩
    rw [if_neg h60]
    have h60' : atL xs i = 60 := Decidable.not_not.mp h60
    have less : ∀ {t : TokD} {j m : Nat}, Goes w0 g v xs s t j m 8 i → Goes w0 g v xs s t j (m + 1) 1 i := fun k => goes_step rfl ⟨by decide, by decide⟩ (leads_data_less s h60') (by decide) k
    by_cases h33 : atL xs (i + 1) = 33
    · rw [if_pos h33]
      exact ⟨4, less (goes_step rfl ⟨by decide, by decide⟩ (leads_less_mark s h33) (by decide) (go_mark s hp (i + 2)))⟩
    rw [if_neg h33]
    by_cases h47 : atL xs (i + 1) = 47
    · rw [if_pos h47]
      have slash : ∀ {t : TokD} {j m : Nat}, Goes w0 g v xs s t j m 9 i → Goes w0 g v xs s t j (m + 2) 1 i := fun k => less (goes_step rfl ⟨by decide, by decide⟩ (leads_less_slash s h47) (by decide) k)
      by_cases hn : atL xs (i + 2) = -1
      · rw [if_pos hn]
        exact ⟨4, slash (goes_step rfl ⟨by decide, by decide⟩ (leads_slash_char s hn) (by decide) (go_char s (by omega) 0))⟩
      rw [if_neg hn]
      have hi2 : i + 2 < xs.length := (atL_of rfl hn).1
      by_cases h62 : atL xs (i + 2) = 62
      · rw [if_pos h62]
        obtain ⟨m, hm⟩ := ih (i + 3) (by omega) (by omega)
        exact ⟨m + 3, slash (goes_step rfl ⟨by decide, by decide⟩ (leads_slash_data s h62) (by decide) hm)⟩
      rw [if_neg h62]
      rcases ha : isAlp (atL xs (i + 2)) with _ | _
      · rw [if_neg (by decide)]
        exact ⟨4, slash (goes_step rfl ⟨by decide, by decide⟩ (leads_slash_remark s ha hn h62) (by decide) (go_rem s hp (i + 2)))⟩
      · rw [if_pos rfl]
        exact ⟨5, slash (goes_step rfl ⟨by decide, by decide⟩ (leads_slash_close s ha hn h62) (by decide) (go_close s hp (i + 2)))⟩
    rw [if_neg h47]
    rcases ha : isAlp (atL xs (i + 1)) with _ | _
    · rw [if_neg (by decide)]
      by_cases h63 : atL xs (i + 1) = 63
      · rw [if_pos h63]
        exact ⟨3, less (goes_step rfl ⟨by decide, by decide⟩ (leads_less_remark s h63) (by decide) (go_rem s hp (i + 1)))⟩
      rw [if_neg h63]
      exact ⟨3, less (goes_step rfl ⟨by decide, by decide⟩ (leads_less_char s ha h47 h33 h63) (by decide) (go_char s (by omega) 0))⟩
    · rw [if_pos rfl]
      exact ⟨4, less (goes_step rfl ⟨by decide, by decide⟩ (leads_less_open s ha) (by decide) (go_open s hp (i + 1)))⟩
end Go.Proofs.YtggfifchkecnjaaGreatDoor

/- The program's Tokens. No condition. -/
namespace Go.Proofs.YtggfifchkecnjaaGreatDoor
open Go.RowKit
set_option maxRecDepth 100000
set_option linter.unusedVariables false

structure TkAt (w w2 : World) (g C : Nat) (u : Value) (ys : List Int) (k : Nat) (tv : Value) (qs : List (TokD × Value)) (wr : World) : Prop where
  cut : Cut w2 g u ys k wr
  box : wr.heap[C]? = some (.cells #[u, .pointer (some ⟨g, 0, none⟩), .string ⟨#[]⟩] 47 (0, 0))
  own : OwnK (C + 1) wr tv qs
  ap : ApartK qs
  bel : Below w.heap.size w wr
  gl : g < C
  le : w.heap.size ≤ g
  le2 : w2.heap.size ≤ C
theorem TkAt.below {w w2 : World} {g C : Nat} {u : Value} {ys : List Int} {k : Nat} {tv : Value} {qs : List (TokD × Value)} {wr wr' : World} (h : TkAt w w2 g C u ys k tv qs wr) (b : Below wr.heap.size wr wr') : TkAt w w2 g C u ys k tv qs wr' :=
  ⟨h.cut.below b, (b.block _ (lt_of_block h.box)).trans h.box, h.own.below b, h.ap, h.bel.trans (b.mono h.bel.size), h.gl, h.le, h.le2⟩
theorem TkAt.move {w w2 : World} {g C : Nat} {u : Value} {ys : List Int} {k k' : Nat} {tv : Value} {qs : List (TokD × Value)} {wr wr' : World} (h : TkAt w w2 g C u ys k tv qs wr) (hc : Cut w2 g u ys k' wr') (hg : wr.grownBy wr' (some g)) : TkAt w w2 g C u ys k' tv qs wr' :=
  ⟨hc, keepB h.box (by decide) h.cut hg, h.own.past hg (by have := h.gl; omega), h.ap, h.bel.grown hg h.bel.size (fun r e => by injection e with e; have := h.le; omega), h.gl, h.le, h.le2⟩
theorem TkAt.snoc {w w2 : World} {g C : Nat} {u : Value} {ys : List Int} {k : Nat} {tv tv' : Value} {qs : List (TokD × Value)} {q : TokD × Value} {wr wr' : World} (h : TkAt w w2 g C u ys k tv qs wr) (hq : wr.ownsRow (C + 1) 81 2 q.2 q.1.rs.length (pairCells q.1.rs))
    (hn : ∀ p ∈ qs, ∀ r, q.2.ownBlock = some r → p.2.ownBlock = some r → False) (ho : wr'.ownsRow (C + 1) 30 5 tv' (qs.length + 1) (tokCells qs ++ tokRow q.1 q.2)) (hg : wr.grownBy wr' tv.ownBlock) : TkAt w w2 g C u ys k tv' (qs ++ [q]) wr' := by
  have hB : ∀ r, tv.ownBlock = some r → C + 1 ≤ r := fun r e => (World.ownsRow.lt h.own.row r e).1
  have hgl := h.gl
  have hle := h.le
  have hle2 := h.le2
  obtain ⟨c1, c2, c3, c4, c5⟩ := h.cut
  refine ⟨⟨c1, c2, grown_past c3 hg (fun r e => by have := hB r e; omega), c4, ?_⟩, ?_, h.own.snoc hq ho hg, apartK_snoc h.ap hn, h.bel.grown hg h.bel.size (fun r e => by have := hB r e; omega), hgl, hle, hle2⟩
  · exact (hg.block g (lt_of_block c5) (fun e => by have := hB g e.symm; omega)).trans c5
  · exact (hg.block C (lt_of_block h.box) (fun e => by have := hB C e.symm; omega)).trans h.box
theorem clean_all (xs : List Int) : ∀ y ∈ xs.map clean, pointOk y = true := by
  intro y hy
  obtain ⟨x, _, rfl⟩ := List.mem_map.mp hy
  exact (clean_ok x).1
theorem tok_one (t : TokD) (a : Option Addr) (n c : Nat) : ∀ y ∈ tokRow t (.slice a n c), y.oneCell' = true := by
  intro y hy
  simp only [tokRow, List.mem_cons, List.not_mem_nil, or_false] at hy
  rcases hy with rfl | rfl | rfl | rfl | rfl <;> rfl

set_option maxHeartbeats 1000000 in
theorem itokens_any {v : Value} {xs : List Int} {w : World} (ho : Older w) (h : Sl .i64 w v xs) (hl : xs.length ≤ 3000) :
    Calls Tryz.prog 7 #[v] w fun e w' => ∃ tv qs, e = .returned tv ∧ OwnK w.heap.size w' tv qs ∧ ApartK qs ∧ qs.map (fun q => q.1) = toksV (xs.map clean) 0 ∧ Below w.heap.size w w' := by
  obtain ⟨iT, hiT, hT0, hT1, hT2⟩ := info_parts Tryz.infoTok
  have h0 := h
  obtain ⟨a, ca, rfl, _, _, _, _⟩ := h
  obtain ⟨ys, hys⟩ : ∃ z, z = xs.map clean := ⟨_, rfl⟩
  rw [← hys]
  have hyl : ys.length ≤ 3000 := by rw [hys, List.length_map]; exact hl
  have HOK := (show Hid (∀ y ∈ ys, pointOk y = true) from by rw [hys]; exact clean_all xs)
  have HYS := (show Hid (ys = xs.map clean) from hys)
  have HO := (show Hid (Older w) from ho)
  obtain ⟨w1, hw1⟩ : ∃ z, z = w.alloc (.cells #[.int .i64 0] 3) := ⟨_, rfl⟩
  have b1 : Below w.heap.size w w1 := by rw [hw1]; exact (Below.refl _ _).alloc (Nat.le_refl _) _
  have GP := (show Hid (w1.heap[w.heap.size]? = some (.cells #[.int .i64 0] 3 (0, 0))) from (show w1.heap[w.heap.size]? = _ by rw [hw1]; exact heap_alloc_new _ _))
  have B1 := (show Hid (Below w.heap.size w w1) from b1)
  have CC := (show Hid _ from cleanPoints_any (h0.below b1) (by omega))
  rw [← HYS.out] at CC
  have hl2 : ¬ (xs.length : Int) > 3000 := by omega
  clear h0 hys ho b1
  go_enter Tryz.func7, Tryz.ntmps7
  go_wp2_with fail
  rw [← hw1]
  clear hw1
  go_at_call 22
  refine Calls.mono CC.out ?_
  rintro e w2 ⟨u, rfl, o2, b2⟩
  have hgp2 := (b2.block _ (lt_of_block GP.out)).trans GP.out
  have hgl : w.heap.size < w1.heap.size := lt_of_block GP.out
  have hap : apart u w.heap.size := by
    intro a n c e
    rcases o2.shape with ⟨e', _⟩ | ⟨gg, cp, e', hB, _⟩
    · rw [e'] at e; cases e
    · rw [e'] at e; cases e; show gg ≠ _; omega
  have cut2 : Cut w2 w.heap.size u ys 0 w2 := ⟨hap, o2.sl, ⟨rfl, rfl, rfl, Nat.le_refl _, fun _ _ _ => rfl⟩, ⟨hyl, Nat.zero_le _⟩, hgp2⟩
  have b2w := B1.out.trans (b2.mono B1.out.size)
  have OLD := (show Hid (∀ W, w2.grownBy W (some w.heap.size) → Older W) from fun W hW => older_grown (HO.out.below b2w) cut2 hW)
  have PG := (show Hid (Page w2 w.heap.size u ys) from ⟨HOK.out, hyl, OLD.out⟩)
  obtain ⟨ua, uc, rfl, _, _, _, _⟩ := o2.sl
  obtain ⟨C, hC⟩ : ∃ z, z = w2.heap.size := ⟨_, rfl⟩
  obtain ⟨w3, hw3⟩ : ∃ z, z = w2.alloc (.cells #[.slice ua ys.length uc, .pointer (some ⟨w.heap.size, 0, none⟩), .string ⟨#[]⟩] 47) := ⟨_, rfl⟩
  have b3 : Below w2.heap.size w2 w3 := by rw [hw3]; exact (Below.refl _ _).alloc (Nat.le_refl _) _
  have gC : w3.heap[C]? = some (.cells #[.slice ua ys.length uc, .pointer (some ⟨w.heap.size, 0, none⟩), .string ⟨#[]⟩] 47 (0, 0)) := by rw [hw3, hC]; exact heap_alloc_new _ _
  have hs3 : w3.heap.size = C + 1 := by rw [hw3, World.size_alloc, hC]
  obtain ⟨w4, hw4⟩ : ∃ z, z = w3.alloc (.cells #[] 30) := ⟨_, rfl⟩
  have b4 : Below w3.heap.size w3 w4 := by rw [hw4]; exact (Below.refl _ _).alloc (Nat.le_refl _) _
  have r4 : w4.ownsRow (C + 1) 30 5 (.slice (some ⟨w3.heap.size, 0, none⟩) 0 0) 0 [] := by rw [hw4]; exact World.ownsRow_lit w3 #[] 0 (by omega) (Nat.zero_le _) rfl
  rw [hs3] at r4
  have TK := (show Hid (TkAt w w2 w.heap.size C (.slice ua ys.length uc) ys 0 (.slice (some ⟨C + 1, 0, none⟩) 0 0) [] w4) from
    ⟨(cut2.below b3).below b4, (b4.block _ (lt_of_block gC)).trans gC, ownK_nil _ _ r4, apartK_nil, (b2w.trans (b3.mono b2w.size)).trans (b4.mono (b2w.trans (b3.mono b2w.size)).size), by rw [hC]; exact Nat.lt_of_lt_of_le hgl b2.size, Nat.le_refl _, Nat.le_of_eq hC.symm⟩)
  have HW4 := (show Hid (w4 = (w2.alloc (.cells #[.slice ua ys.length uc, .pointer (some ⟨w.heap.size, 0, none⟩), .string ⟨#[]⟩] 47)).alloc (.cells #[] 30)) from by rw [← hw3]; exact hw4)
  have HC := (show Hid (C = w2.heap.size) from hC)
  clear CC o2 b2 hgp2 hap cut2 b2w OLD hC hw3 b3 gC hs3 hw4 b4 r4 GP B1 hgl
  go_upto_region 6 with fail
  rw [← HW4.out, ← HC.out]
  clear HW4 HC
  go_loopw [5] (fun u wr => ∃ (k : Nat) (qs : List (TokD × Value)), k ≤ ys.length ∧ qs.length ≤ 3001 ∧ Hid (TkAt w w2 w.heap.size C (.slice ua ys.length uc) ys k u qs wr ∧ qs.map (fun q => q.1) ++ toksV ys k = toksV ys 0)) (fun _ wr => ys.length - plc wr w.heap.size)
  case atStart => exact ⟨0, [], Nat.zero_le _, Nat.zero_le _, TK.out, rfl⟩
  case round =>
    clear TK
    obtain ⟨k, qs, hk, hq, I⟩ := hrel
    have T0 := (show Hid _ from I.out.1)
    have HV := (show Hid (qs.map (fun q => q.1) ++ toksV ys k = toksV ys 0) from I.out.2)
    have MP := (show Hid (plc wr w.heap.size = k) from (show _ = _ by unfold plc; rw [T0.out.cut.cell.1]; simp))
    clear I
    obtain ⟨c0, c1, c2⟩ := (show wr.cell? ⟨C, 0, none⟩ = some (.slice ua ys.length uc) ∧ wr.cell? ⟨C, 1, none⟩ = some (.pointer (some ⟨w.heap.size, 0, none⟩)) ∧ wr.cell? ⟨C, 2, none⟩ = some (.string ⟨#[]⟩) from ⟨cell_block T0.out.box rfl, cell_block T0.out.box rfl, cell_block T0.out.box rfl⟩)
    obtain ⟨m, hm⟩ := go_data ⟨#[]⟩ PG.out (ys.length + 1) k hk (by omega)
    have tb := tokV_tells hyl k
    have hT1 : (tokV ys k).1.k = 1 → toksV ys k = [(tokV ys k).1] := toks_end
    have hT2' : (tokV ys k).1.k ≠ 1 → toksV ys k = (tokV ys k).1 :: toksV ys (tokV ys k).2 := toks_more hyl
    rw [show tokM ys (ys.length + 1) k = tokV ys k from rfl] at hm
    obtain ⟨⟨⟨tk, nm, rs, tx, sf⟩, j⟩, hr⟩ : ∃ r, r = tokV ys k := ⟨_, rfl⟩
    rw [← hr] at hm tb hT1 hT2'
    have CR := run_any hm T0.out.cut
    unfold cutVal at CR
    have CR := (show Hid _ from CR)
    have TB := (show Hid (TokB ys k (⟨tk, nm, rs, tx, sf⟩, j)) from tb)
    have HT1 := (show Hid (tk = 1 → toksV ys k = [⟨tk, nm, rs, tx, sf⟩]) from hT1)
    have HT2 := (show Hid (tk ≠ 1 → toksV ys k = ⟨tk, nm, rs, tx, sf⟩ :: toksV ys j) from hT2')
    have hlen := toks_len hyl ys.length 0 (by omega)
    rw [← HV.out, List.length_append, List.length_map] at hlen
    clear hm hr tb hT1 hT2'
    go_wp2_with fail
    go_at_call 23
    refine Calls.mono CR.out ?_
    rintro e w5 ⟨u5, rfl, ⟨va, rfl, row5⟩, cut5, g5⟩
    simp only at row5
    obtain ⟨a5, l5, d5, rfl⟩ := row_slice row5
    have hwr : C + 1 ≤ wr.heap.size := lt_of_block T0.out.box
    have T5 := (show Hid (TkAt w w2 w.heap.size C (.slice ua ys.length uc) ys j _ qs w5) from T0.out.move cut5 g5)
    have NEW := (show Hid (∀ p ∈ qs, ∀ r, (Value.slice a5 l5 d5).ownBlock = some r → p.2.ownBlock = some r → False) from fun p hp r e1 e2 => by
      have h1 := (World.ownsRow.lt row5 r e1).1
      have h2 := (World.ownsRow.lt (T0.out.own.each p hp) r e2).2
      omega)
    have R5 := (show Hid (w5.ownsRow (C + 1) 81 2 (.slice a5 l5 d5) rs.length (pairCells rs)) from row_base row5 hwr)
    unfold tokVal
    obtain ⟨w6, hw6⟩ : ∃ z, z = w5.alloc (.cells #[.int .i64 tk, .string nm, .slice a5 l5 d5, .string tx, .bool sf] 30) := ⟨_, rfl⟩
    have b6 : Below w5.heap.size w5 w6 := by rw [hw6]; exact (Below.refl _ _).alloc (Nat.le_refl _) _
    have g6 : w6.heap[w5.heap.size]? = some (.cells #[.int .i64 tk, .string nm, .slice a5 l5 d5, .string tx, .bool sf] 30 (0, 0)) := by rw [hw6]; exact heap_alloc_new _ _
    obtain ⟨w7, hw7⟩ : ∃ z, z = w6.alloc (.cells #[.int .i64 tk, .string nm, .slice a5 l5 d5, .string tx, .bool sf] 30) := ⟨_, rfl⟩
    have b7 : Below w6.heap.size w6 w7 := by rw [hw7]; exact (Below.refl _ _).alloc (Nat.le_refl _) _
    have hs6 : w6.heap.size = w5.heap.size + 1 := by rw [hw6, World.size_alloc]
    have sv7 := sv_tok w6 tk nm (.slice a5 l5 d5) tx sf rs
    rw [← hw7] at sv7
    have T7 := (show Hid _ from (T5.out.below b6).below b7)
    have R7 := (show Hid _ from ownsRow_below (ownsRow_below R5.out b6) b7)
    have G7 := (show Hid (w7.heap[w5.heap.size]? = some (.cells #[.int .i64 tk, .string nm, .slice a5 l5 d5, .string tx, .bool sf] 30 (0, 0))) from (b7.block _ (lt_of_block g6)).trans g6)
    have SV7 := (show Hid _ from sv7)
    have HLO := (show Hid (∀ r tv, TkAt w w2 w.heap.size C (.slice ua ys.length uc) ys j tv qs w5 → tv.ownBlock = some r → r ≠ w5.heap.size) from fun r tv ht e => by
      have := (World.ownsRow.lt ht.own.row r e).2
      omega)
    have hq2 : qs.length ≤ 3000 := by
      by_cases h1 : tk = 1
      · have := HT1.out h1; rw [this] at hlen; simp at hlen; omega
      · have := HT2.out h1; rw [this] at hlen; simp at hlen; omega
    rw [hs6] at SV7
    have hsz7 : C + 1 ≤ w7.heap.size := by have := T7.out.own.row; have := b7.size; have := lt_of_block T5.out.box; omega
    have HW7 := (show Hid (w7 = (w5.alloc (.cells #[.int .i64 tk, .string nm, .slice a5 l5 d5, .string tx, .bool sf] 30)).alloc (.cells #[.int .i64 tk, .string nm, .slice a5 l5 d5, .string tx, .bool sf] 30)) from (show _ = _ by rw [← hw6]; exact hw7))
    clear CR row5 cut5 g5 T0 hw6 b6 g6 hw7 b7 hs6 sv7 R5 hwr c0 c1 c2 hlen
    go_wp2_with (at_builtin
                 rw [← HW7.out]
                 refine wpList_appV _ rfl (.tmp 17) (.tmp 19) 26 rfl (C + 1) 30 iT _ 5 72 Tryz.underlying26 hiT hT0 hT1 hT2 rfl (by decide) _ _ qs.length 1 (tokCells qs) (tokRow ⟨tk, nm, rs, tx, sf⟩ (.slice a5 l5 d5)) rfl rfl T7.out.own.row SV7.out rfl (tok_one _ _ _ _) (by omega) (by unfold maxLen; omega) hsz7 ?_
                 intro v' w8 o8 g8
                 have T8 := (show Hid _ from T7.out.snoc (q := (⟨tk, nm, rs, tx, sf⟩, .slice a5 l5 d5)) R7.out NEW.out o8 g8)
                 have G8 := (show Hid (w8.heap[w5.heap.size]? = some (.cells #[.int .i64 tk, .string nm, .slice a5 l5 d5, .string tx, .bool sf] 30 (0, 0))) from (g8.block _ (lt_of_block G7.out) (fun e => HLO.out _ _ T5.out e.symm rfl)).trans G7.out)
                 have ck := (cell_block (k := 0) G8.out rfl : w8.cell? ⟨w5.heap.size, 0, none⟩ = some (.int .i64 tk))
                 clear o8 g8)
    · rename_i hk1
      have h1 : tk = 1 := by simpa using hk1
      go_ret
      exact ⟨_, qs ++ [(⟨tk, nm, rs, tx, sf⟩, .slice a5 l5 d5)], rfl, T8.out.own.base (by have := T8.out.gl; have := T8.out.le; omega), T8.out.ap, by rw [List.map_append, ← HV.out, HT1.out h1]; rfl, T8.out.bel⟩
    · rename_i hk1
      have h1 : tk ≠ 1 := by simpa using hk1
      have hP8 : plc w8 w.heap.size = j := by unfold plc; rw [T8.out.cut.cell.1]; simp
      have hmo : k < j := TB.out.more h1
      have hle : j ≤ ys.length := TB.out.le
      refine ⟨⟨j, qs ++ [(⟨tk, nm, rs, tx, sf⟩, .slice a5 l5 d5)], hle, by rw [List.length_append, List.length_singleton]; omega, T8.out, ?_⟩, ?_⟩
      · rw [List.map_append, List.append_assoc, ← HV.out, HT2.out h1]; rfl
      · rw [hP8, MP.out]; omega
end Go.Proofs.YtggfifchkecnjaaGreatDoor
