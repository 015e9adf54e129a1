/- The laws' helpers that look whether a row of tokens holds its marks, and hold two rows against each other. No condition. -/
import Derived.Test.YtggfifchkecnjaaGreatDoorX43
import Derived.Test.YtggfifchkecnjaaGreatDoorX29
namespace Go.Proofs.YtggfifchkecnjaaGreatDoor
open Go.RowKit
set_option maxRecDepth 100000
set_option linter.unusedVariables false

def MarkedK : Int → List TokD → Prop
  | _, [] => True
  | r, t :: ts => t = mkK r t ∧ MarkedK (r + advK t) ts
theorem MarkedK.at : ∀ {ts : List TokD} {r : Int}, MarkedK r ts → ∀ k (hk : k < ts.length), ts[k] = mkK (r + advKs (ts.take k)) ts[k] := by
  intro ts
  induction ts with
  | nil => intro r _ k hk; simp at hk
  | cons t ts ih =>
    intro r h k hk
    cases k with
    | zero => simpa [advKs] using h.1
    | succ k =>
      have := ih h.2 k (by simpa using hk)
      rw [List.getElem_cons_succ, List.take_succ_cons, advKs_cons, ← Int.add_assoc]
      exact this
theorem mkK_adv (r : Int) (t : TokD) : advK (mkK r t) = advK t := by unfold advK mkK; simp only [markPairs_len]
theorem mkK_mkK (r : Int) (t : TokD) : mkK r (mkK r t) = mkK r t := by unfold mkK; simp only [markPairs_len]
theorem mkKs_marked : ∀ (r : Int) (qs : List (TokD × Value)), MarkedK r ((mkKs r qs).map fun q => q.1) ∧ advKs ((mkKs r qs).map fun q => q.1) = advKs (qs.map fun q => q.1) := by
  intro r qs
  induction qs generalizing r with
  | nil => exact ⟨trivial, rfl⟩
  | cons q qs ih =>
    simp only [mkKs, List.map_cons, advKs_cons, mkK_adv]
    refine ⟨⟨(mkK_mkK r q.1).symm, ?_⟩, by rw [(ih _).2]⟩
    rw [mkK_adv]; exact (ih _).1
theorem mkKs_few : ∀ (r : Int) (qs : List (TokD × Value)), (∀ t ∈ qs.map (fun q => q.1), t.rs.length ≤ 20) → ∀ t ∈ (mkKs r qs).map (fun q => q.1), t.rs.length ≤ 20 := by
  intro r qs
  induction qs generalizing r with
  | nil => intro _ t ht; simp [mkKs] at ht
  | cons q qs ih =>
    intro h t ht
    simp only [mkKs, List.map_cons, List.mem_cons] at ht
    rcases ht with rfl | ht
    · have := h q.1 (by simp)
      show (markPairs _ _).length ≤ 20
      rw [markPairs_len]; exact this
    · exact ih _ (fun t ht => h t (by rw [List.map_cons]; exact List.mem_cons_of_mem _ ht)) t ht

set_option maxHeartbeats 2000000 in
set_option maxRecDepth 100000 in
theorem heldTokenS_any {v : Value} {ts : List TokD} {w : World} (h : ToksAt w v ts) (hm : MarkedK 1 ts) (hfew : ∀ t ∈ ts, t.rs.length ≤ 20) (hlen : ts.length ≤ 3001) :
    Calls Tryz.prog 15 #[v, .int .i64 1] w fun e w' => e = .returned (.int .i64 (1 + advKs ts)) ∧ Below w.heap.size w w' := by
  have HM := (show Hid (MarkedK 1 ts) from hm)
  have HFEW := (show Hid (∀ t ∈ ts, t.rs.length ≤ 20) from hfew)
  obtain ⟨a, ca, rfl, _, _, hca⟩ := h
  have HCA := (show Hid _ from hca)
  clear hca hm hfew
  have ne := Wd.any w.heap.size w
  go_enter Tryz.func15, Tryz.ntmps15
  go_wp2
  go_loopw [1, 5] (fun q i wr => ∃ (k : Nat) (r : Int), k ≤ ts.length ∧ i = .int .i64 k ∧ q = .int .i64 r ∧ 0 ≤ r ∧ Hid (r = 1 + advKs (ts.take k)) ∧ Below w.heap.size w wr) (fun _ i _ => ts.length - (intOf i).toNat)
  case atStart => exact ⟨0, 1, Nat.zero_le _, rfl, rfl, by omega, (show (1 : Int) = 1 + advKs (ts.take 0) by simp [advKs]), Below.refl _ _⟩
  case round =>
    obtain ⟨k, r, hk, rfl, rfl, hr0, hr1, hb⟩ := hrel
    by_cases hlt : k < ts.length
    · obtain ⟨b1, o1, av, rfl, l1, c0, c1, c2, c3, c4, sa⟩ := HCA.out k hlt
      have hadv : advKs (ts.take (k + 1)) = advKs (ts.take k) + (4 + 2 * ts[k].rs.length) := advKs_take hlt
      have hla2 : ts[k].rs.length ≤ 20 := HFEW.out _ (List.getElem_mem hlt)
      have hrB : r ≤ 200000 := by
        have e1 := advKs_le (ts := ts.take k) (fun t ht => HFEW.out t (List.mem_of_mem_take ht))
        have e2 : (ts.take k).length ≤ ts.length := by simp; omega
        have := hr1.out
        omega
      have e := HM.out.at k hlt
      rw [← hr1.out] at e
      have q0 : ts[k].k = r := congrArg (fun n => n.k) e
      have q1 : ts[k].nm = mt (r + 1) := congrArg (fun n => n.nm) e
      have q2 : ts[k].rs = markPairs (r + 1 + 1) ts[k].rs.length := congrArg (fun n => n.rs) e
      have q3 : ts[k].tx = mt (r + 1 + 1 + 2 * ts[k].rs.length) := congrArg (fun n => n.tx) e
      have q4 : ts[k].sf = ((r + 1 + 1 + 2 * ts[k].rs.length + 1) % 3 == 0) := congrArg (fun n => n.sf) e
      rw [q0] at c0
      rw [q1] at c1
      rw [q2] at sa
      rw [q3] at c3
      rw [q4] at c4
      obtain ⟨la, hla⟩ : ∃ la, la = ts[k].rs.length := ⟨_, rfl⟩
      rw [← hla] at sa c3 c4 hadv hla2
      obtain ⟨r4, hr4⟩ : ∃ x : Int, x = r + 1 + 1 + 2 * la := ⟨_, rfl⟩
      rw [← hr4] at c3 c4
      have hr4a : 0 ≤ r4 := by omega
      have hr4b : r4 ≤ 300000 := by omega
      have NEXT := (show Hid (r4 + 1 + 1 = 1 + advKs (ts.take (k + 1))) from (by have := hr1.out; rw [hadv]; omega : r4 + 1 + 1 = 1 + advKs (ts.take (k + 1))))
      have HR4 := (show Hid (r4 = r + 1 + 1 + 2 * la) from hr4)
      obtain ⟨va1, va2, rfl, _, _, _⟩ := sa.pair
      rw [markPairs_len] at c2 sa
      have C1 := (show Hid (∀ w, Calls Tryz.prog 32 #[.int .i64 (r + 1)] w fun e w' => e = .returned (.string (mt (r + 1))) ∧ Below w.heap.size w w') from fun w => markText_any _ _ (by omega))
      have C2 := (show Hid (∀ W, Below w.heap.size w W → Calls Tryz.prog 34 #[.slice va1 la va2, .int .i64 (r + 1 + 1)] W fun e w' => e = .returned (.int .i64 (r + 1 + 1 + 2 * la)) ∧ Below W.heap.size W w') from fun W b => heldAttrS_any (r + 1 + 1) (sa.below b) (by omega) (by omega) (by omega))
      have C3 := (show Hid (∀ w, Calls Tryz.prog 32 #[.int .i64 r4] w fun e w' => e = .returned (.string (mt r4)) ∧ Below w.heap.size w w') from fun w => markText_any _ _ (by omega))
      have D0 := (show Hid (∀ W, Below w.heap.size w W → W.cell? ⟨b1, o1 + k * 5, none⟩ = some (.int .i64 r)) from fun W b => (b.cell (p := ⟨b1, o1 + k * 5, none⟩) l1).trans c0)
      have A1 : ∀ m : Wd w.heap.size w, m.w.cell? ⟨b1, o1 + k * 5 + 1, none⟩ = some (.string (mt (r + 1))) := fun m => (m.below.cell (p := ⟨b1, o1 + k * 5 + 1, none⟩) l1).trans c1
      have D2 := (show Hid (∀ W, Below w.heap.size w W → W.cell? ⟨b1, o1 + k * 5 + 2, none⟩ = some (.slice va1 la va2)) from fun W b => (b.cell (p := ⟨b1, o1 + k * 5 + 2, none⟩) l1).trans c2)
      have A3 : ∀ m : Wd w.heap.size w, m.w.cell? ⟨b1, o1 + k * 5 + 3, none⟩ = some (.string (mt r4)) := fun m => (m.below.cell (p := ⟨b1, o1 + k * 5 + 3, none⟩) l1).trans c3
      have D4 := (show Hid (∀ W, Below w.heap.size w W → W.cell? ⟨b1, o1 + k * 5 + 4, none⟩ = some (.bool ((r4 + 1) % 3 == 0))) from fun W b => (b.cell (p := ⟨b1, o1 + k * 5 + 4, none⟩) l1).trans c4)
      have d0 := D0.out wr hb
      clear c0 c1 c2 c3 c4 sa e q0 q1 q2 q3 q4 hla hr4 hadv
      go_wp2
      refine wp_region_below (by kernel_rfl) (by kernel_rfl) hb ?_
      repeat (go_big_quiet_step ((go_at_call 32; exact quiet_below (C1.out _) (Nat.le_refl _))))
      refine wpQuiet_nil ?_
      intro wq hq
      replace hq := Wd.of hq
      clear d0 hb
      have d2 := D2.out wq hq
      go_wp2_with fail
      go_at_call 34
      refine Calls.mono (C2.out _ hq) ?_
      rintro e w2 ⟨rfl, b2⟩
      rw [← HR4.out]
      replace hq := hq.trans (b2.mono hq.size)
      clear d2 b2
      go_wp2
      refine wp_region_below (by kernel_rfl) (by kernel_rfl) hq ?_
      repeat (go_big_quiet_step ((go_at_call 32; exact quiet_below (C3.out _) (Nat.le_refl _))))
      refine wpQuiet_nil ?_
      intro wz hz
      replace hz := Wd.of hz
      clear hq A1 A3
      have d4 := D4.out wz hz
      obtain ⟨sf, hsf⟩ : ∃ s, s = ((r4 + 1) % 3 == 0) := ⟨_, rfl⟩
      cases sf
      · have hs0 : ((r4 + 1) % 3 == 0) = false := hsf.symm
        rw [hs0] at d4
        clear hsf
        go_wp2
        go_roundw
        case rel => exact ⟨k + 1, _, by omega, by go_num, rfl, by omega, NEXT.out, hz⟩
        case measure => simp [intOf]; omega
      · have hs0 : ((r4 + 1) % 3 == 0) = true := hsf.symm
        rw [hs0] at d4
        clear hsf
        go_wp2
        go_roundw
        case rel => exact ⟨k + 1, _, by omega, by go_num, rfl, by omega, NEXT.out, hz⟩
        case measure => simp [intOf]; omega
    · have hke : k = ts.length := by omega
      have hr := hr1.out
      rw [hke, List.take_length] at hr
      go_wp2
      go_ret
      exact ⟨ret_int hr, hb⟩

set_option maxHeartbeats 2000000 in
set_option maxRecDepth 100000 in
theorem eqTokenS_same {v u : Value} {ts : List TokD} {w : World} (h : ToksAt w v ts) (k : ToksAt w u ts) (hfew : ∀ t ∈ ts, t.rs.length ≤ 20) (hlen : ts.length ≤ 3001) :
    Calls Tryz.prog 11 #[v, u] w fun e w' => e = .returned (.bool true) ∧ Below w.heap.size w w' := by
  have HFEW := (show Hid (∀ t ∈ ts, t.rs.length ≤ 20) from hfew)
  obtain ⟨a, ca, rfl, _, _, hca⟩ := h
  obtain ⟨b, cb, rfl, _, _, hcb⟩ := k
  have HCA := (show Hid _ from hca)
  have HCB := (show Hid _ from hcb)
  clear hfew hca hcb
  have ne := Wd.any w.heap.size w
  go_enter Tryz.func11, Tryz.ntmps11
  go_wp2
  go_loopw [5] (fun i wr => ∃ k : Nat, k ≤ ts.length ∧ i = .int .i64 k ∧ Below w.heap.size w wr) (fun i _ => ts.length - (intOf i).toNat)
  case atStart => exact ⟨0, Nat.zero_le _, rfl, Below.refl _ _⟩
  case round =>
    obtain ⟨k, hk, rfl, hb⟩ := hrel
    by_cases hlt : k < ts.length
    · obtain ⟨b1, o1, av, rfl, l1, c0, c1, c2, c3, c4, sa⟩ := HCA.out k hlt
      obtain ⟨b2, o2, bv, rfl, l2, d0, d1, d2, d3, d4, ta⟩ := HCB.out k hlt
      have hnf := HFEW.out ts[k] (List.getElem_mem hlt)
      have CC := (show Hid (∀ m : Wd w.heap.size w, Calls Tryz.prog 31 #[.agg #[.int .i64 ts[k].k, .string ts[k].nm, av, .string ts[k].tx, .bool ts[k].sf], .agg #[.int .i64 ts[k].k, .string ts[k].nm, bv, .string ts[k].tx, .bool ts[k].sf]] m.w fun e w' => e = .returned (.bool true) ∧ Below m.w.heap.size m.w w') from fun m => eqToken_same (sa.below m.below) (ta.below m.below) ts[k].k ts[k].nm ts[k].tx ts[k].sf (by omega))
      obtain ⟨x, hx⟩ : ∃ x, x = ts[k] := ⟨_, rfl⟩
      rw [← hx] at c0 c1 c3 c4 d0 d1 d3 d4 CC
      have A0 : ∀ m : Wd w.heap.size w, m.w.cell? ⟨b1, o1 + k * 5, none⟩ = some (.int .i64 x.k) := fun m => (m.below.cell (p := ⟨b1, o1 + k * 5, none⟩) l1).trans c0
      have A1 : ∀ m : Wd w.heap.size w, m.w.cell? ⟨b1, o1 + k * 5 + 1, none⟩ = some (.string x.nm) := fun m => (m.below.cell (p := ⟨b1, o1 + k * 5 + 1, none⟩) l1).trans c1
      have A2 : ∀ m : Wd w.heap.size w, m.w.cell? ⟨b1, o1 + k * 5 + 2, none⟩ = some av := fun m => (m.below.cell (p := ⟨b1, o1 + k * 5 + 2, none⟩) l1).trans c2
      have A3 : ∀ m : Wd w.heap.size w, m.w.cell? ⟨b1, o1 + k * 5 + 3, none⟩ = some (.string x.tx) := fun m => (m.below.cell (p := ⟨b1, o1 + k * 5 + 3, none⟩) l1).trans c3
      have A4 : ∀ m : Wd w.heap.size w, m.w.cell? ⟨b1, o1 + k * 5 + 4, none⟩ = some (.bool x.sf) := fun m => (m.below.cell (p := ⟨b1, o1 + k * 5 + 4, none⟩) l1).trans c4
      have E0 : ∀ m : Wd w.heap.size w, m.w.cell? ⟨b2, o2 + k * 5, none⟩ = some (.int .i64 x.k) := fun m => (m.below.cell (p := ⟨b2, o2 + k * 5, none⟩) l2).trans d0
      have E1 : ∀ m : Wd w.heap.size w, m.w.cell? ⟨b2, o2 + k * 5 + 1, none⟩ = some (.string x.nm) := fun m => (m.below.cell (p := ⟨b2, o2 + k * 5 + 1, none⟩) l2).trans d1
      have E2 : ∀ m : Wd w.heap.size w, m.w.cell? ⟨b2, o2 + k * 5 + 2, none⟩ = some bv := fun m => (m.below.cell (p := ⟨b2, o2 + k * 5 + 2, none⟩) l2).trans d2
      have E3 : ∀ m : Wd w.heap.size w, m.w.cell? ⟨b2, o2 + k * 5 + 3, none⟩ = some (.string x.tx) := fun m => (m.below.cell (p := ⟨b2, o2 + k * 5 + 3, none⟩) l2).trans d3
      have E4 : ∀ m : Wd w.heap.size w, m.w.cell? ⟨b2, o2 + k * 5 + 4, none⟩ = some (.bool x.sf) := fun m => (m.below.cell (p := ⟨b2, o2 + k * 5 + 4, none⟩) l2).trans d4
      clear c0 c1 c2 c3 c4 d0 d1 d2 d3 d4 sa ta hx hnf HFEW
      go_wp2
      refine wp_region_below (by kernel_rfl) (by kernel_rfl) hb ?_
      repeat (go_big_quiet_step ((go_at_call 31; exact quiet_below (CC.out _) (Nat.le_refl _))))
      refine wpQuiet_nil ?_
      intro wq hq
      replace hq := Wd.of hq
      clear A0 A1 A2 A3 A4 E0 E1 E2 E3 E4 CC
      go_wp2
      go_roundw
      case rel => exact ⟨k + 1, by omega, by go_num, hq⟩
      case measure => simp [intOf]; omega
    · go_wp2
      go_ret
      exact ⟨rfl, hb⟩
end Go.Proofs.YtggfifchkecnjaaGreatDoor

/- The states comment and ref of the program's cutter (written by mk/icutl.py). No condition. -/
namespace Go.Proofs.YtggfifchkecnjaaGreatDoor
open Go.RowKit
set_option maxRecDepth 100000
set_option linter.unusedVariables false

theorem commentText_tb {w0 : World} {g : Nat} {v : Value} {xs : List Int} {s : ByteArray} {w : World} {k : Nat} {wr : World} (h : TB w0 g v xs s w k wr) (hy : ∀ y ∈ xs, pointOk y = true) :
    Calls Tryz.prog 122 #[.agg #[v, .pointer (some ⟨g, 0, none⟩), .string s]] wr fun e w' => e = .returned (.string (comV xs k k).1) ∧ TB w0 g v xs s w (comV xs k k).2 w' := by
  refine (commentText_any h.cb.cut hy s).mono ?_
  rintro e w' ⟨rfl, hc, hg⟩
  exact ⟨rfl, h.move hc hg⟩

set_option maxHeartbeats 1000000 in
theorem leads_comment_gr {w0 : World} {g : Nat} {v : Value} {xs : List Int} {i : Nat} (s : ByteArray) (hy : ∀ y ∈ xs, pointOk y = true) (h1 : stands xs i [62] = true) : Leads 76 w0 g v xs s i (remarkT ⟨#[]⟩) 0 (i + 1) := by
  have e1 : standsLow xs i (bs ⟨#[62]⟩) = true := by rw [st_62s]; exact h1
  have e2 : behT xs i ⟨#[62]⟩ = i + 1 := by unfold behT; rw [e1]; rfl
  intro w h
  have htb := tb_new (s := s) h
  have hxl := h.2.2.2.1.1
  have hil := h.2.2.2.1.2
  obtain ⟨w1, hw1⟩ : ∃ z, z = (w.alloc (.cells #[v, .pointer (some ⟨g, 0, none⟩), .string s] 47)).alloc (.cells #[.int .i64 0, .string ⟨#[]⟩, .slice none 0 0, .string ⟨#[]⟩, .bool false] 30) := ⟨_, rfl⟩
  rw [← hw1] at htb
  have T1 := (show Hid (TB w0 g v xs s w i w1) from htb)
  clear htb h
  unfold cutVal
  go_enter Tryz.func76, Tryz.ntmps76
  go_upto_region 1 with fail
  rw [← hw1]
  clear hw1
  obtain ⟨c0, c1, c2⟩ := T1.out.cb.cells
  go_wp2_with fail
  go_at_call 118
  refine (takes_tb T1.out hy _ lowT_62 (by decide)).mono ?_
  rintro e w2 ⟨rfl, t2, _⟩
  rw [e2] at t2
  rw [e1]
  have T2 := (show Hid _ from t2)
  clear T1 t2 c0 c1 c2
  clear e1 e2
  obtain ⟨x1, x2⟩ := T2.out.exit ((nil_row _ _)) 3 ⟨#[]⟩ ⟨#[]⟩ false
  have X2 := (show Hid _ from x2)
  have X1 := (show Hid _ from x1)
  unfold tokSet at x1
  have X1 := (show Hid _ from x1)
  clear x1 x2
  obtain ⟨⟨p0, p1, p2, p3, p4⟩, q0, q1, q2, q3, q4⟩ := tok_cells T2.out.res
  clear T2
  go_wp2
  (try simp only [Exit.inBlock, Exit.then])
  refine bodyPost_ret (tok_res (f := Tryz.f76) (p := 2) (q := 3) rfl (k := 3) (nm := ⟨#[]⟩) (va := (.slice none 0 0)) (tx := ⟨#[]⟩) (sf := false) rfl rfl X1.out) rfl ?_
  exact ⟨_, rfl, X2.out⟩
set_option maxHeartbeats 1000000 in
theorem leads_comment_dash {w0 : World} {g : Nat} {v : Value} {xs : List Int} {i : Nat} (s : ByteArray) (hy : ∀ y ∈ xs, pointOk y = true) (h1 : stands xs i [62] = false) (h2 : stands xs i [45, 62] = true) : Leads 76 w0 g v xs s i (remarkT ⟨#[]⟩) 0 (i + 2) := by
  have e1 : standsLow xs i (bs ⟨#[62]⟩) = false := by rw [st_62s]; exact h1
  have e2 : behT xs i ⟨#[62]⟩ = i := by unfold behT; rw [e1]; rfl
  have e3 : standsLow xs i (bs ⟨#[45, 62]⟩) = true := by rw [st_4562]; exact h2
  have e4 : behT xs i ⟨#[45, 62]⟩ = i + 2 := by unfold behT; rw [e3]; rfl
  intro w h
  have htb := tb_new (s := s) h
  have hxl := h.2.2.2.1.1
  have hil := h.2.2.2.1.2
  obtain ⟨w1, hw1⟩ : ∃ z, z = (w.alloc (.cells #[v, .pointer (some ⟨g, 0, none⟩), .string s] 47)).alloc (.cells #[.int .i64 0, .string ⟨#[]⟩, .slice none 0 0, .string ⟨#[]⟩, .bool false] 30) := ⟨_, rfl⟩
  rw [← hw1] at htb
  have T1 := (show Hid (TB w0 g v xs s w i w1) from htb)
  clear htb h
  unfold cutVal
  go_enter Tryz.func76, Tryz.ntmps76
  go_upto_region 1 with fail
  rw [← hw1]
  clear hw1
  obtain ⟨c0, c1, c2⟩ := T1.out.cb.cells
  go_wp2_with fail
  go_at_call 118
  refine (takes_tb T1.out hy _ lowT_62 (by decide)).mono ?_
  rintro e w2 ⟨rfl, t2, _⟩
  rw [e2] at t2
  rw [e1]
  have T2 := (show Hid _ from t2)
  clear T1 t2 c0 c1 c2
  obtain ⟨c0, c1, c2⟩ := T2.out.cb.cells
  go_wp2_with fail
  go_at_call 118
  refine (takes_tb T2.out hy _ lowT_4562 (by decide)).mono ?_
  rintro e w3 ⟨rfl, t2, _⟩
  rw [e4] at t2
  rw [e3]
  have T3 := (show Hid _ from t2)
  clear T2 t2 c0 c1 c2
  clear e1 e2 e3 e4
  obtain ⟨x1, x2⟩ := T3.out.exit ((nil_row _ _)) 3 ⟨#[]⟩ ⟨#[]⟩ false
  have X2 := (show Hid _ from x2)
  have X1 := (show Hid _ from x1)
  unfold tokSet at x1
  have X1 := (show Hid _ from x1)
  clear x1 x2
  obtain ⟨⟨p0, p1, p2, p3, p4⟩, q0, q1, q2, q3, q4⟩ := tok_cells T3.out.res
  clear T3
  go_wp2
  (try simp only [Exit.inBlock, Exit.then])
  refine bodyPost_ret (tok_res (f := Tryz.f76) (p := 2) (q := 3) rfl (k := 3) (nm := ⟨#[]⟩) (va := (.slice none 0 0)) (tx := ⟨#[]⟩) (sf := false) rfl rfl X1.out) rfl ?_
  exact ⟨_, rfl, X2.out⟩
set_option maxHeartbeats 1000000 in
theorem leads_comment_text {w0 : World} {g : Nat} {v : Value} {xs : List Int} {i : Nat} (s : ByteArray) (hy : ∀ y ∈ xs, pointOk y = true) (h1 : stands xs i [62] = false) (h2 : stands xs i [45, 62] = false) : Leads 76 w0 g v xs s i (remarkT (comV xs i i).1) 0 (comV xs i i).2 := by
  have e1 : standsLow xs i (bs ⟨#[62]⟩) = false := by rw [st_62s]; exact h1
  have e2 : behT xs i ⟨#[62]⟩ = i := by unfold behT; rw [e1]; rfl
  have e3 : standsLow xs i (bs ⟨#[45, 62]⟩) = false := by rw [st_4562]; exact h2
  have e4 : behT xs i ⟨#[45, 62]⟩ = i := by unfold behT; rw [e3]; rfl
  obtain ⟨⟨tx, j⟩, hcv⟩ : ∃ z, z = comV xs i i := ⟨_, rfl⟩
  rw [← hcv]
  have HCV := (show Hid ((tx, j) = comV xs i i) from hcv)
  clear hcv
  simp only
  intro w h
  have htb := tb_new (s := s) h
  have hxl := h.2.2.2.1.1
  have hil := h.2.2.2.1.2
  obtain ⟨w1, hw1⟩ : ∃ z, z = (w.alloc (.cells #[v, .pointer (some ⟨g, 0, none⟩), .string s] 47)).alloc (.cells #[.int .i64 0, .string ⟨#[]⟩, .slice none 0 0, .string ⟨#[]⟩, .bool false] 30) := ⟨_, rfl⟩
  rw [← hw1] at htb
  have T1 := (show Hid (TB w0 g v xs s w i w1) from htb)
  clear htb h
  unfold cutVal
  go_enter Tryz.func76, Tryz.ntmps76
  go_upto_region 1 with fail
  rw [← hw1]
  clear hw1
  obtain ⟨c0, c1, c2⟩ := T1.out.cb.cells
  go_wp2_with fail
  go_at_call 118
  refine (takes_tb T1.out hy _ lowT_62 (by decide)).mono ?_
  rintro e w2 ⟨rfl, t2, _⟩
  rw [e2] at t2
  rw [e1]
  have T2 := (show Hid _ from t2)
  clear T1 t2 c0 c1 c2
  obtain ⟨c0, c1, c2⟩ := T2.out.cb.cells
  go_wp2_with fail
  go_at_call 118
  refine (takes_tb T2.out hy _ lowT_4562 (by decide)).mono ?_
  rintro e w3 ⟨rfl, t2, _⟩
  rw [e4] at t2
  rw [e3]
  have T3 := (show Hid _ from t2)
  clear T2 t2 c0 c1 c2
  clear e1 e2 e3 e4
  have CT := commentText_tb T3.out hy
  rw [← HCV.out] at CT
  have CT := (show Hid _ from CT)
  obtain ⟨c0, c1, c2⟩ := T3.out.cb.cells
  go_wp2_with fail
  go_at_call 122
  refine Calls.mono CT.out ?_
  rintro e w4 ⟨rfl, t4⟩
  have T4 := (show Hid _ from t4)
  clear T3 CT t4 c0 c1 c2
  obtain ⟨x1, x2⟩ := T4.out.exit ((nil_row _ _)) 3 ⟨#[]⟩ tx false
  have X2 := (show Hid _ from x2)
  have X1 := (show Hid _ from x1)
  unfold tokSet at x1
  have X1 := (show Hid _ from x1)
  clear x1 x2
  obtain ⟨⟨p0, p1, p2, p3, p4⟩, q0, q1, q2, q3, q4⟩ := tok_cells T4.out.res
  clear T4
  go_wp2
  (try simp only [Exit.inBlock, Exit.then])
  refine bodyPost_ret (tok_res (f := Tryz.f76) (p := 2) (q := 3) rfl (k := 3) (nm := ⟨#[]⟩) (va := (.slice none 0 0)) (tx := tx) (sf := false) rfl rfl X1.out) rfl ?_
  exact ⟨_, rfl, X2.out⟩
set_option maxHeartbeats 1000000 in
theorem leads_ref {w0 : World} {g : Nat} {v : Value} {xs : List Int} {i : Nat} (s : ByteArray) (hy : ∀ y ∈ xs, pointOk y = true) (ho : ∀ W, w0.grownBy W (some g) → Older W) (hi : i < xs.length) (h38 : atL xs i = 38) : Leads 68 w0 g v xs s i (charT (strOf (puts (refRead xs i false).1))) 0 (refRead xs i false).2.toNat := by
  intro w h
  obtain ⟨n, y, he, hkn, hnl, hyo, _⟩ := ref_facts false h.2.2.2.1.1 hi h38
  rw [he]
  simp only [Int.toNat_natCast]
  obtain ⟨a, ca, rfl, hca, hcm, _, _⟩ := h.sl
  have HE := (show Hid (refRead xs i false = ([y], (n : Int))) from he)
  clear he
  have htb := tb_new (s := s) h
  have hxl := h.2.2.2.1.1
  have hil := h.2.2.2.1.2
  obtain ⟨w1, hw1⟩ : ∃ z, z = (w.alloc (.cells #[.slice a xs.length ca, .pointer (some ⟨g, 0, none⟩), .string s] 47)).alloc (.cells #[.int .i64 0, .string ⟨#[]⟩, .slice none 0 0, .string ⟨#[]⟩, .bool false] 30) := ⟨_, rfl⟩
  rw [← hw1] at htb
  have T1 := (show Hid (TB w0 g (.slice a xs.length ca) xs s w i w1) from htb)
  clear htb h
  unfold cutVal
  go_enter Tryz.func68, Tryz.ntmps68
  go_upto_region 1 with fail
  rw [← hw1]
  clear hw1
  have T2 := (show Hid (TB w0 g (.slice a xs.length ca) xs s w i w1.drew) from T1.out.below (below_drewN 1))
  have CR := irefRead_any (ho _ T2.out.cb.cut.2.2.1) T2.out.cb.cut.sl (i : Int) false (wf_i64c (by omega) (by omega)) (by omega)
  rw [HE.out] at CR
  have CR := (show Hid (Calls Tryz.prog 112 #[.slice a xs.length ca, .int .i64 (i : Int), .bool false] w1.drew fun e w' => ∃ xa xn xc, e = .returned (.tuple #[.slice xa xn xc, .int .i64 (n : Int)]) ∧ Own w1.drew.heap.size 3 .i64 w' (.slice xa xn xc) [y] ∧ Below w1.drew.heap.size w1.drew w') from CR.mono (by
    rintro e w' ⟨vx, rfl, ox, b⟩
    obtain ⟨xa, xc, rfl, _⟩ := ox.sl
    exact ⟨_, _, _, rfl, ox, b⟩))
  have z0 : w1.drew.cell? ⟨w.heap.size, 0, none⟩ = some (.slice a xs.length ca) ∧ w1.drew.cell? ⟨w.heap.size, 1, none⟩ = some (.pointer (some ⟨g, 0, none⟩)) ∧ w1.drew.cell? ⟨g, 0, none⟩ = some (.int .i64 i) := ⟨T2.out.cb.cells.1, T2.out.cb.cells.2.1, T2.out.cb.cut.cell.1⟩
  have Z0 := (show Hid _ from z0)
  clear T1 z0
  go_region_held3 (fun w' => w'.cell? ⟨w.heap.size, 0, none⟩ = some (.slice a xs.length ca) ∧ w'.cell? ⟨w.heap.size, 1, none⟩ = some (.pointer (some ⟨g, 0, none⟩)) ∧ w'.cell? ⟨g, 0, none⟩ = some (.int .i64 i))
    (first | with_reducible exact Z0.out | with_reducible exact Z6.out)
    (first
      | (go_at_call 112
         with_reducible refine Calls.mono CR.out ?_
         rintro e w6 ⟨xa, xn, xc, rfl, ox, b6⟩
         have T6 := (show Hid _ from T2.out.below b6)
         have OX := (show Hid _ from ox)
         have Z6 := (show Hid (w6.cell? ⟨w.heap.size, 0, none⟩ = some (.slice a xs.length ca) ∧ w6.cell? ⟨w.heap.size, 1, none⟩ = some (.pointer (some ⟨g, 0, none⟩)) ∧ w6.cell? ⟨g, 0, none⟩ = some (.int .i64 i)) from ⟨T6.out.cb.cells.1, T6.out.cb.cells.2.1, T6.out.cb.cut.cell.1⟩)
         clear b6 ox))
  have ox : Own w1.drew.heap.size 3 .i64 w6 (.slice xa xn xc) [y] := OX.out
  obtain ⟨c0, c1, c2⟩ := T6.out.cb.cells
  obtain ⟨cg, fg⟩ := T6.out.cb.cut.cell
  have hgl1 : g < w1.drew.heap.size := T2.out.cb.cut.lt
  obtain ⟨t1, t2⟩ := T6.out.cb.cut.set n hnl
  have T7 := (show Hid _ from T6.out.move t1 t2)
  have O7 := (show Hid _ from own_past ox t2 hgl1)
  have CP := iputs_any (Own.sl O7.out) (by simp)
  have e2 : pointsPut [y] = puts [y] := by unfold pointsPut; rw [if_pos (by simp)]
  rw [e2] at CP
  have CP := (show Hid _ from CP)
  obtain ⟨w7, hw7⟩ : ∃ z, z = w6.setCell ⟨g, 0, none⟩ (.int .i64 (n : Nat)) := ⟨_, rfl⟩
  rw [← hw7] at T7 CP
  clear CR T2 Z0 Z6 ox OX t1 t2 e2 T6 O7 hgl1
  go_wp2_with fail
  rw [← hw7]
  clear hw7 c0 c1 c2 cg fg
  go_at_call 96
  refine Calls.mono CP.out ?_
  rintro e w8 ⟨vp, rfl, op, b8⟩
  have hcv := conv_sl op.sl
  obtain ⟨pa, pc, rfl, _⟩ := op.sl
  have T8 := (show Hid _ from T7.out.below b8)
  obtain ⟨tx, htx⟩ : ∃ z, z = strOf (puts [y]) := ⟨_, rfl⟩
  rw [← htx] at hcv
  have HTX := (show Hid (strOf (puts [y]) = tx) from htx.symm)
  clear CP T7 b8 op htx
  obtain ⟨x1, x2⟩ := T8.out.exit ((nil_row _ _)) 2 ⟨#[]⟩ tx false
  have X2 := (show Hid _ from x2)
  have X1 := (show Hid _ from x1)
  unfold tokSet at x1
  have X1 := (show Hid _ from x1)
  clear x1 x2
  obtain ⟨⟨p0, p1, p2, p3, p4⟩, q0, q1, q2, q3, q4⟩ := tok_cells T8.out.res
  clear T8
  go_wp2
  (try simp only [Exit.inBlock, Exit.then])
  refine bodyPost_ret (tok_res (f := Tryz.f68) (p := 2) (q := 3) rfl (k := 2) (nm := ⟨#[]⟩) (va := (.slice none 0 0)) (tx := tx) (sf := false) rfl rfl X1.out) rfl ?_
  rw [HTX.out]
  exact ⟨_, rfl, X2.out⟩
end Go.Proofs.YtggfifchkecnjaaGreatDoor
