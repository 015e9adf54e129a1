/- The contract of the specification's TokenOk. -/
import Derived.Test.YtlggfbelandpjaaTok
namespace Go.Proofs.Ytlggfbelandpjaa
open Go.RowKit
set_option linter.unusedVariables false

set_option maxHeartbeats 2000000 in
set_option maxRecDepth 100000 in
theorem stok_none {a : Option Addr} {ca : Nat} {rs : List (ByteArray × ByteArray)} {w : World} (k : Int) (nm tx : ByteArray) (sf : Bool) (hf : TokFit nm rs tx) (hno : (decide (rs.length = 0) && !sf) = false) (h5 : k ≠ 5) :
    Calls Try.prog 25 #[tokVal k nm (.slice a rs.length ca) tx sf] w fun e w' => e = .returned (.bool (tokenOk k nm rs tx sf)) ∧ Below w.heap.size w w' := by
  have hr : tokenOk k nm rs tx sf = false := by
    unfold tokenOk
    rw [hno]
    simp only [Bool.false_and]
    rw [if_neg h5]
    repeat (split <;> try rfl)
  rw [hr]
  have b1 : Below w.heap.size w (w.alloc (.cells #[.int .i64 k, .string nm, .slice a rs.length ca, .string tx, .bool sf] 49)) := (Below.refl _ _).alloc (Nat.le_refl _) _
  have hl := hf.hrs
  unfold tokVal
  have e5 : (k == 5) = false := by simpa using h5
  by_cases h0 : rs.length = 0
  · have hsf : sf = true := by cases sf <;> simp_all
    subst hsf
    rw [h0] at *
    go_enter Try.func25, Try.ntmps25
    go_wp2
    all_goals (go_ret; exact ⟨ret_bool (by simp), b1⟩)
  · have h0' : ((rs.length : Int) == 0) = false := by rw [beq_eq_false_iff_ne]; omega
    go_enter Try.func25, Try.ntmps25
    go_wp2
    all_goals (go_ret; exact ⟨ret_bool (by simp), b1⟩)

set_option maxHeartbeats 2000000 in
set_option maxRecDepth 100000 in
theorem stok_end {a : Option Addr} {ca : Nat} {w : World} (nm tx : ByteArray) :
    Calls Try.prog 25 #[tokVal 1 nm (.slice a 0 ca) tx false] w fun e w' => e = .returned (.bool (nm.toList.isEmpty && tx.toList.isEmpty)) ∧ Below w.heap.size w w' := by
  have b1 : Below w.heap.size w (w.alloc (.cells #[.int .i64 1, .string nm, .slice a 0 ca, .string tx, .bool false] 49)) := (Below.refl _ _).alloc (Nat.le_refl _) _
  obtain ⟨q1, e1⟩ : ∃ q, q = nm.toList.isEmpty := ⟨_, rfl⟩
  obtain ⟨q2, e2⟩ : ∃ q, q = tx.toList.isEmpty := ⟨_, rfl⟩
  unfold tokVal
  rw [← e1, ← e2]
  replace e1 := e1.symm
  replace e2 := e2.symm
  cases q1
  all_goals
    go_enter Try.func25, Try.ntmps25
    go_wp2
    all_goals (go_ret; exact ⟨ret_bool (by simp), b1⟩)

set_option maxHeartbeats 2000000 in
set_option maxRecDepth 100000 in
theorem stok_text {a : Option Addr} {ca : Nat} {w : World} (k : Int) (hk : k = 2 ∨ k = 3) (nm tx : ByteArray) (ht : tx.size ≤ 1048576) :
    Calls Try.prog 25 #[tokVal k nm (.slice a 0 ca) tx false] w fun e w' => e = .returned (.bool (nm.toList.isEmpty && utfOk (bs tx) && (decide (k = 3) || decide ((dec (bs tx)).length = 1)))) ∧ Below w.heap.size w w' := by
  have b1 : Below w.heap.size w (w.alloc (.cells #[.int .i64 k, .string nm, .slice a 0 ca, .string tx, .bool false] 49)) := (Below.refl _ _).alloc (Nat.le_refl _) _
  obtain ⟨q1, e1⟩ : ∃ q, q = nm.toList.isEmpty := ⟨_, rfl⟩
  obtain ⟨q2, e2⟩ : ∃ q, q = tx.toList.isEmpty := ⟨_, rfl⟩
  unfold tokVal
  rw [← e1]
  replace e1 := e1.symm
  clear e2
  have c1 := fun w => l1Ok_any tx w (by omega)
  obtain ⟨u, eu⟩ : ∃ u, u = utfOk (bs tx) := ⟨_, rfl⟩
  rw [← eu] at c1 ⊢
  have C1 := (show Hid _ from c1)
  clear c1 eu
  cases q1
  · rcases hk with rfl | rfl
    all_goals
      go_enter Try.func25, Try.ntmps25
      go_wp2
      go_ret
      exact ⟨ret_bool (by simp), b1⟩
  · cases u
    · rcases hk with rfl | rfl
      all_goals
        go_enter Try.func25, Try.ntmps25
        go_wp2_with fail
        go_at_call 43
        refine (C1.out _).mono ?_
        rintro e w2 ⟨rfl, b2⟩
        replace b2 := b1.trans (b2.mono b1.size)
        go_wp2
        go_ret
        exact ⟨ret_bool (by simp), b2⟩
    · rcases hk with rfl | rfl
      · go_enter Try.func25, Try.ntmps25
        go_wp2_with fail
        go_at_call 43
        refine (C1.out _).mono ?_
        rintro e w2 ⟨rfl, b2⟩
        obtain ⟨_, _, _, x3, _⟩ := (TokAt.below (tokAt_new w 2 nm (.slice a 0 ca) tx false) b2).cells
        replace b2 := b1.trans (b2.mono b1.size)
        obtain ⟨cap, w3, hc, hkk, hcap, hm, hb⟩ := conv_str tx w2 (by unfold maxLen; omega)
        have hl := bs_len tx
        have hsl := hkk.sl (n := tx.size) (cap := cap) (by omega) (by omega) hm
        have hu := l1Read_any hsl (bs_byte tx) (by omega)
        have hdl := dec_len _ (bs tx) (Nat.le_refl _)
        obtain ⟨ds, hds⟩ : ∃ ds, ds = dec (bs tx) := ⟨_, rfl⟩
        rw [← hds] at hu hdl
        have b3 := b2.trans (hb.mono b2.size)
        clear hkk hsl hb
        go_wp2_with fail
        go_at_call 44
        refine hu.mono ?_
        rintro e w4 ⟨v4, rfl, o4, b4⟩
        replace b4 := b3.trans (b4.mono b3.size)
        have HD := (show Hid _ from hds)
        have OL := (show Hid _ from o4)
        rcases o4.shape with ⟨rfl, hnil⟩ | ⟨gg, cg, rfl, _⟩
        · have h0 : ds.length = 0 := by rw [hnil]; rfl
          clear o4 hnil hds
          go_wp2
          go_ret
          exact ⟨ret_bool (by rw [← HD.out, h0]; simp), b4⟩
        · clear o4 hds
          have HL : Hid (ds.length = (dec (bs tx)).length) := (show ds.length = _ by rw [HD.out])
          generalize ds.length = dl at *
          go_wp2
          go_ret
          exact ⟨ret_bool (by rw [← HL.out]; by_cases h1 : dl = 1 <;> simp [h1] <;> omega), b4⟩
      · go_enter Try.func25, Try.ntmps25
        go_wp2_with fail
        go_at_call 43
        refine (C1.out _).mono ?_
        rintro e w2 ⟨rfl, b2⟩
        replace b2 := b1.trans (b2.mono b1.size)
        go_wp2
        go_ret
        exact ⟨ret_bool (by simp), b2⟩

set_option maxHeartbeats 2000000 in
set_option maxRecDepth 100000 in
theorem stok_doc {a : Option Addr} {ca : Nat} {w : World} (nm tx : ByteArray) (hn : nm.size ≤ 1048576) :
    Calls Try.prog 25 #[tokVal 4 nm (.slice a 0 ca) tx false] w fun e w' => e = .returned (.bool (tx.toList.isEmpty && decide (nm.size ≤ 60) && utfOk (bs nm))) ∧ Below w.heap.size w w' := by
  have b1 : Below w.heap.size w (w.alloc (.cells #[.int .i64 4, .string nm, .slice a 0 ca, .string tx, .bool false] 49)) := (Below.refl _ _).alloc (Nat.le_refl _) _
  obtain ⟨q1, e1⟩ : ∃ q, q = nm.toList.isEmpty := ⟨_, rfl⟩
  obtain ⟨q2, e2⟩ : ∃ q, q = tx.toList.isEmpty := ⟨_, rfl⟩
  unfold tokVal
  rw [← e2]
  replace e2 := e2.symm
  clear e1
  have c1 := fun w => l1Ok_any nm w (by omega)
  obtain ⟨u, eu⟩ : ∃ u, u = utfOk (bs nm) := ⟨_, rfl⟩
  rw [← eu] at c1 ⊢
  have C1 := (show Hid _ from c1)
  clear c1 eu
  cases q2
  · go_enter Try.func25, Try.ntmps25
    go_wp2
    go_ret
    exact ⟨ret_bool (by simp), b1⟩
  · by_cases h60 : nm.size ≤ 60
    · go_enter Try.func25, Try.ntmps25
      go_wp2_with fail
      go_at_call 43
      refine (C1.out _).mono ?_
      rintro e w2 ⟨rfl, b2⟩
      replace b2 := b1.trans (b2.mono b1.size)
      go_wp2
      go_ret
      exact ⟨ret_bool (by simp [h60]), b2⟩
    · go_enter Try.func25, Try.ntmps25
      go_wp2
      go_ret
      exact ⟨ret_bool (by simp), b1⟩

set_option maxHeartbeats 2000000 in
set_option maxRecDepth 100000 in
theorem stok_close {a : Option Addr} {ca : Nat} {w : World} (nm tx : ByteArray) (hn : nm.size ≤ 1048576) :
    Calls Try.prog 25 #[tokVal 6 nm (.slice a 0 ca) tx false] w fun e w' => e = .returned (.bool (tx.toList.isEmpty && nameOk (bs nm))) ∧ Below w.heap.size w w' := by
  have b1 : Below w.heap.size w (w.alloc (.cells #[.int .i64 6, .string nm, .slice a 0 ca, .string tx, .bool false] 49)) := (Below.refl _ _).alloc (Nat.le_refl _) _
  obtain ⟨q1, e1⟩ : ∃ q, q = nm.toList.isEmpty := ⟨_, rfl⟩
  obtain ⟨q2, e2⟩ : ∃ q, q = tx.toList.isEmpty := ⟨_, rfl⟩
  unfold tokVal
  rw [← e2]
  replace e2 := e2.symm
  clear e1
  have c1 := fun w => snameOk_any nm w (by omega)
  obtain ⟨u, eu⟩ : ∃ u, u = nameOk (bs nm) := ⟨_, rfl⟩
  rw [← eu] at c1 ⊢
  have C1 := (show Hid _ from c1)
  clear c1 eu
  cases q2
  · go_enter Try.func25, Try.ntmps25
    go_wp2
    go_ret
    exact ⟨ret_bool (by simp), b1⟩
  · go_enter Try.func25, Try.ntmps25
    go_wp2_with fail
    go_at_call 45
    refine (C1.out _).mono ?_
    rintro e w2 ⟨rfl, b2⟩
    replace b2 := b1.trans (b2.mono b1.size)
    go_wp2
    go_ret
    exact ⟨ret_bool (by simp), b2⟩

set_option maxHeartbeats 2000000 in
set_option maxRecDepth 100000 in
theorem stok_other {a : Option Addr} {ca : Nat} {w : World} (k : Int) (nm tx : ByteArray) (hk : k ≠ 1 ∧ k ≠ 2 ∧ k ≠ 3 ∧ k ≠ 4 ∧ k ≠ 5 ∧ k ≠ 6) :
    Calls Try.prog 25 #[tokVal k nm (.slice a 0 ca) tx false] w fun e w' => e = .returned (.bool false) ∧ Below w.heap.size w w' := by
  have b1 : Below w.heap.size w (w.alloc (.cells #[.int .i64 k, .string nm, .slice a 0 ca, .string tx, .bool false] 49)) := (Below.refl _ _).alloc (Nat.le_refl _) _
  obtain ⟨q1, e1⟩ : ∃ q, q = nm.toList.isEmpty := ⟨_, rfl⟩
  obtain ⟨q2, e2⟩ : ∃ q, q = tx.toList.isEmpty := ⟨_, rfl⟩
  unfold tokVal
  clear e1 e2
  obtain ⟨k1, k2, k3, k4, k5, k6⟩ := hk
  have h1 : (k == 1) = false := by simpa using k1
  have h2 : (k == 2) = false := by simpa using k2
  have h3 : (k == 3) = false := by simpa using k3
  have h4 : (k == 4) = false := by simpa using k4
  have h5 : (k == 5) = false := by simpa using k5
  have h6 : (k == 6) = false := by simpa using k6
  go_enter Try.func25, Try.ntmps25
  go_wp2
  go_ret
  exact ⟨rfl, b1⟩

set_option maxHeartbeats 2000000 in
set_option maxRecDepth 100000 in
theorem stok_open {a : Option Addr} {ca : Nat} {rs : List (ByteArray × ByteArray)} {w : World} (h : Sv 2 w (.slice a rs.length ca) (pairCells rs)) (nm tx : ByteArray) (sf : Bool) (hf : TokFit nm rs tx) :
    Calls Try.prog 25 #[tokVal 5 nm (.slice a rs.length ca) tx sf] w fun e w' => e = .returned (.bool (tx.toList.isEmpty && nameOk (bs nm) && attrsOk rs)) ∧ Below w.heap.size w w' := by
  have b1 : Below w.heap.size w (w.alloc (.cells #[.int .i64 5, .string nm, .slice a rs.length ca, .string tx, .bool sf] 49)) := (Below.refl _ _).alloc (Nat.le_refl _) _
  have hl := hf.hrs
  have hnm := hf.hnm
  have CA := (show Hid (∀ w', Below w.heap.size w w' → Calls Try.prog 16 #[.slice a rs.length ca] w' fun e w'' => e = .returned (.bool (attrsOk rs)) ∧ Below w'.heap.size w' w'') from fun w' hb => sattrsOk_any (h.below hb) (by omega) hf.each)
  obtain ⟨q2, e2⟩ : ∃ q, q = tx.toList.isEmpty := ⟨_, rfl⟩
  unfold tokVal
  rw [← e2]
  replace e2 := e2.symm
  have c1 := fun w => snameOk_any nm w (by omega)
  obtain ⟨u, eu⟩ : ∃ u, u = nameOk (bs nm) := ⟨_, rfl⟩
  rw [← eu] at c1 ⊢
  have C1 := (show Hid _ from c1)
  obtain ⟨t, et⟩ : ∃ t, t = attrsOk rs := ⟨_, rfl⟩
  rw [← et] at CA ⊢
  clear c1 eu et h hf
  obtain ⟨z, ez⟩ : ∃ z, ((rs.length : Int) == 0) = z := ⟨_, rfl⟩
  cases q2
  · cases z
    all_goals
      go_enter Try.func25, Try.ntmps25
      go_wp2
      go_ret
      exact ⟨ret_bool (by simp), b1⟩
  · cases u
    · cases z
      all_goals
        go_enter Try.func25, Try.ntmps25
        go_wp2_with fail
        go_at_call 45
        refine (C1.out _).mono ?_
        rintro e w2 ⟨rfl, b2⟩
        replace b2 := b1.trans (b2.mono b1.size)
        go_wp2
        go_ret
        exact ⟨ret_bool (by simp), b2⟩
    · cases z
      all_goals
        go_enter Try.func25, Try.ntmps25
        go_wp2_with fail
        go_at_call 45
        refine (C1.out _).mono ?_
        rintro e w2 ⟨rfl, b2⟩
        obtain ⟨_, _, x2, _, _⟩ := (TokAt.below (tokAt_new w 5 nm (.slice a rs.length ca) tx sf) b2).cells
        replace b2 := b1.trans (b2.mono b1.size)
        go_wp2_with fail
        go_at_call 16
        refine (CA.out _ b2).mono ?_
        rintro e w3 ⟨rfl, b3⟩
        replace b3 := b2.trans (b3.mono b2.size)
        go_wp2
        go_ret
        exact ⟨ret_bool (by simp), b3⟩

theorem stokenOk_any {a : Option Addr} {ca : Nat} {rs : List (ByteArray × ByteArray)} {w : World} (h : Sv 2 w (.slice a rs.length ca) (pairCells rs)) (k : Int) (nm tx : ByteArray) (sf : Bool) (hf : TokFit nm rs tx) :
    Calls Try.prog 25 #[tokVal k nm (.slice a rs.length ca) tx sf] w fun e w' => e = .returned (.bool (tokenOk k nm rs tx sf)) ∧ Below w.heap.size w w' := by
  by_cases h5 : k = 5
  · subst h5
    have e : tokenOk 5 nm rs tx sf = (tx.toList.isEmpty && nameOk (bs nm) && attrsOk rs) := by unfold tokenOk; simp
    rw [e]
    exact stok_open h nm tx sf hf
  rcases hno : (decide (rs.length = 0) && !sf) with _ | _
  · exact stok_none k nm tx sf hf hno h5
  · have h0 : rs.length = 0 := by simp only [Bool.and_eq_true, decide_eq_true_eq] at hno; exact hno.1
    have hsf : sf = false := by simp only [Bool.and_eq_true] at hno; simpa using hno.2
    subst hsf
    have e := (show tokenOk k nm rs tx false = _ from rfl)
    unfold tokenOk
    rw [h0]
    by_cases k1 : k = 1
    · subst k1; simpa using stok_end (a := a) (ca := ca) (w := w) nm tx
    by_cases k2 : k = 2
    · subst k2; simpa using stok_text (a := a) (ca := ca) (w := w) 2 (.inl rfl) nm tx hf.htx
    by_cases k3 : k = 3
    · subst k3; simpa using stok_text (a := a) (ca := ca) (w := w) 3 (.inr rfl) nm tx hf.htx
    by_cases k4 : k = 4
    · subst k4; simpa using stok_doc (a := a) (ca := ca) (w := w) nm tx hf.hnm
    by_cases k6 : k = 6
    · subst k6; simpa using stok_close (a := a) (ca := ca) (w := w) nm tx hf.hnm
    · simpa [k1, k2, k3, k4, h5, k6] using stok_other (a := a) (ca := ca) (w := w) k nm tx ⟨k1, k2, k3, k4, h5, k6⟩
end Go.Proofs.Ytlggfbelandpjaa
