/- Records, plainly: what is read is what its own form stands for, byte by byte. No condition. -/
import Derived.Test.YtmpgbonolmmcpaaV21
import Derived.Test.YtmpgbonolmmcpaaV19
namespace Go.Proofs.Ytmpgbonolmmcpaa
open Go.RowKit
set_option maxRecDepth 100000
set_option linter.unusedVariables false

theorem rdA_back : ∀ (m k : Nat) (acc : Int) (ds : List Int) (y : Int) (n : Nat), (∀ d ∈ ds, 0 ≤ d ∧ d ≤ 255) → rdA (m + 1) k acc ds = some (y, n) →
    ∃ (x : Int) (rest : List Int), ds = nf m x ++ rest ∧ 0 ≤ x ∧ ¬ (x = 0 ∧ 0 < k) ∧ y = acc + x * 128 ^ k ∧ n = k + (nf m x).length := by
  intro m
  induction m with
  | zero =>
    intro k acc ds y n hb h
    cases ds with
    | nil => simp [rdA_nil] at h
    | cons d ds =>
      by_cases hd : d < 128
      · by_cases h0 : d = 0 ∧ 0 < k
        · rw [rdA_bad hd h0] at h; cases h
        · rw [rdA_end hd h0] at h
          simp only [Option.some.injEq, Prod.mk.injEq] at h
          exact ⟨d, ds, rfl, (hb d (List.mem_cons_self ..)).1, h0, h.1.symm, h.2.symm⟩
      · rw [rdA_on hd, rdA_zero] at h; cases h
  | succ m ih =>
    intro k acc ds y n hb h
    cases ds with
    | nil => simp [rdA_nil] at h
    | cons d ds =>
      have hd0 := hb d (List.mem_cons_self ..)
      by_cases hd : d < 128
      · by_cases h0 : d = 0 ∧ 0 < k
        · rw [rdA_bad hd h0] at h; cases h
        · rw [rdA_end hd h0] at h
          simp only [Option.some.injEq, Prod.mk.injEq] at h
          exact ⟨d, ds, by rw [nf_lt hd]; rfl, hd0.1, h0, h.1.symm, by rw [nf_lt hd]; exact h.2.symm⟩
      · rw [rdA_on hd] at h
        obtain ⟨x, rest, h1, h2, h3, h4, h5⟩ := ih _ _ _ _ _ (fun q hq => hb q (List.mem_cons_of_mem _ hq)) h
        have hx : 1 ≤ x := by omega
        have e1 : (d % 128 + 128 * x) % 128 = d % 128 := by omega
        have e2 : (d % 128 + 128 * x) / 128 = x := by omega
        have hg : nf (m + 1) (d % 128 + 128 * x) = d :: nf m x := by
          rw [nf_ge (by omega), e1, e2]
          congr 1
          omega
        refine ⟨d % 128 + 128 * x, rest, by rw [hg, h1]; rfl, by omega, by omega, ?_, ?_⟩
        · have e3 := parts128 (d % 128 + 128 * x) (128 ^ k)
          rw [e1, e2] at e3
          rw [h4, Int.pow_succ, Int.add_assoc, e3]
        · rw [h5, hg, List.length_cons]; omega

theorem rdI_back {xs : List Int} {i y : Int} {n : Nat} (hb : ∀ x ∈ xs, 0 ≤ x ∧ x ≤ 255) (h : rdI xs i = some (y, n)) : xs.drop i.toNat = form y ++ xs.drop (i.toNat + n) ∧ n = (form y).length := by
  have hi := rdI_some h hb
  unfold rdI at h
  rw [if_neg (by omega)] at h
  obtain ⟨x, rest, h1, h2, h3, h4, h5⟩ := rdA_back 8 0 0 _ _ _ (fun d hd => hb d (List.mem_of_mem_drop hd)) h
  have hy : y = x := by rw [h4]; simp
  subst hy
  have hf : form y = nf 8 y := by unfold form; rw [if_neg (by omega)]
  rw [← hf] at h1 h5
  have hn : n = (form y).length := by omega
  refine ⟨?_, hn⟩
  rw [← List.drop_drop, h1, hn, List.drop_left]
theorem rdT_back {xs t : List Int} {i j : Int} (hb : ∀ x ∈ xs, 0 ≤ x ∧ x ≤ 255) (h : rdT xs i = some (t, j)) : xs.drop i.toNat = textForm (strOf t) ++ xs.drop j.toNat := by
  unfold rdT at h
  split at h
  · rename_i y n e
    obtain ⟨h1, h2, h3, h4, h5, h6, h7⟩ := rdI_some e hb
    obtain ⟨g1, g2⟩ := rdI_back hb e
    split at h
    · rename_i hy
      simp only [Option.some.injEq, Prod.mk.injEq] at h
      obtain ⟨rfl, rfl⟩ := h
      have hl : ((xs.drop (i + n).toNat).take y.toNat).length = y.toNat := by rw [List.length_take, List.length_drop]; omega
      have hbt : ∀ x ∈ (xs.drop (i + n).toNat).take y.toNat, 0 ≤ x ∧ x ≤ 255 := fun x hx => hb x (List.mem_of_mem_drop (List.mem_of_mem_take hx))
      have e1 : textForm (strOf ((xs.drop (i + n).toNat).take y.toNat)) = form y ++ (xs.drop (i + n).toNat).take y.toNat := by
        unfold textForm
        rw [strOf_size, hl, bs_strOf hbt, Int.toNat_of_nonneg h6]
      have e2 : (i + (n : Int)).toNat = i.toNat + n := by omega
      have e3 : (i + (n : Int) + y).toNat = i.toNat + n + y.toNat := by omega
      rw [e1, g1, e2, e3, List.append_assoc, ← List.drop_drop (i := y.toNat), List.take_append_drop]
    · cases h
  · cases h
/-- What is read as a record is what the record packs to. -/
theorem readR_back {xs : List Int} {i j : Int} {r : PRec} (hb : ∀ x ∈ xs, 0 ≤ x ∧ x ≤ 255) (h : readR xs i = (r, j, true)) : xs.drop i.toNat = recL r ++ xs.drop j.toNat := by
  unfold readR at h
  split at h
  · simp at h
  · rename_i k n e
    obtain ⟨h1, h2, h3, h4, h5, h6, h7⟩ := rdI_some e hb
    obtain ⟨g1, g2⟩ := rdI_back hb e
    have en : (i + (n : Int)).toNat = i.toNat + n := by omega
    split at h
    · simp at h
    · rename_i u l e2
      have b2 := rdT_back hb e2
      rw [en] at b2
      split at h
      · rename_i hk
        subst hk
        split at h
        · simp at h
        · rename_i t m e3
          have b3 := rdT_back hb e3
          split at h
          · rename_i hr
            simp only [Prod.mk.injEq, and_true] at h
            obtain ⟨rfl, rfl⟩ := h
            rw [g1, b2, b3]
            simp [recL]
          · simp at h
      · rename_i hk
        split at h
        · rename_i hr
          simp only [Prod.mk.injEq, and_true] at h
          obtain ⟨rfl, rfl⟩ := h
          rw [g1, b2]
          simp [recL, hk]
        · simp at h
theorem recsF_back {xs : List Int} (hb : ∀ x ∈ xs, 0 ≤ x ∧ x ≤ 255) : ∀ (f i : Nat) (l : List PRec), recsF xs f i = some l → xs.drop i = l.flatMap recL ∧ ∀ r ∈ l, recB r = true := by
  intro f
  induction f with
  | zero => intro i l h; cases h
  | succ f ih =>
    intro i l h
    unfold recsF at h
    split at h
    · rename_i hi
      split at h
      · rename_i hok
        have he : readR xs i = ((readR xs i).1, (readR xs i).2.1, true) := by rw [← hok]
        have hn := readR_next he hb
        have hk := readR_back hb he
        cases hq : recsF xs f (readR xs i).2.1.toNat with
        | none => rw [hq] at h; cases h
        | some l' =>
          rw [hq] at h
          simp only [Option.map_some, Option.some.injEq] at h
          obtain ⟨a1, a2⟩ := ih _ _ hq
          rw [← h]
          refine ⟨?_, fun r hr => ?_⟩
          · rw [List.flatMap_cons, ← a1, ← hk, Int.toNat_natCast]
          · rcases List.mem_cons.mp hr with rfl | hr
            · exact hn.2.2.2.1
            · exact a2 r hr
      · cases h
    · simp only [Option.some.injEq] at h
      rw [← h, List.drop_eq_nil_of_le (by omega)]
      exact ⟨rfl, fun r hr => by cases hr⟩
/-- Records that are read pack to the bytes that they were read from, and each is right. -/
theorem recsR_back {xs : List Int} (hb : ∀ x ∈ xs, 0 ≤ x ∧ x ≤ 255) (h : (recsR xs).2 = true) : xs = (recsR xs).1.flatMap recL ∧ ∀ r ∈ (recsR xs).1, recB r = true := by
  unfold recsR at h ⊢
  cases hq : recsF xs (xs.length + 1) 0 with
  | none => rw [hq] at h; cases h
  | some l =>
    have := recsF_back hb _ _ _ hq
    rw [List.drop_zero] at this
    exact this
end Go.Proofs.Ytmpgbonolmmcpaa

/- The index, plainly: its bytes are read as they were; the last one of an address decides; ascending. No condition. -/
namespace Go.Proofs.Ytmpgbonolmmcpaa
open Go.RowKit
set_option maxRecDepth 100000
set_option linter.unusedVariables false

theorem recL_pos {r : PRec} (h : recB r = true) : 0 < (recL r).length := by
  have hk : r.kind = 1 ∨ r.kind = 2 := by
    simp only [recB, Bool.and_eq_true, Bool.or_eq_true, decide_eq_true_eq] at h
    exact h.1.1
  have h1 : 0 < (form (1 : Int)).length := List.length_pos_iff.mpr (form_ne 1)
  have h2 : 0 < (form (2 : Int)).length := List.length_pos_iff.mpr (form_ne 2)
  unfold recL
  rw [List.length_append, List.length_append]
  rcases hk with e | e
  · rw [e]; exact Nat.lt_of_lt_of_le h1 (by omega)
  · rw [e]; exact Nat.lt_of_lt_of_le h2 (by omega)
theorem recsF_of : ∀ (l : List PRec) (pre : List Int) (f : Nat), (∀ r ∈ l, recB r = true ∧ r.body.size ≤ 1099511627776) → l.length < f → recsF (pre ++ l.flatMap recL) f pre.length = some l := by
  intro l
  induction l with
  | nil =>
    intro pre f _ hf
    cases f with
    | zero => simp at hf
    | succ f => unfold recsF; rw [if_neg (by simp)]
  | cons r l ih =>
    intro pre f hs hf
    cases f with
    | zero => simp at hf
    | succ f =>
      have hr := hs r (List.mem_cons_self ..)
      have hp := recL_pos hr.1
      have h1 := readR_of hr.1 hr.2 pre (l.flatMap recL)
      have e : pre ++ (r :: l).flatMap recL = pre ++ recL r ++ l.flatMap recL := by rw [List.flatMap_cons, List.append_assoc]
      rw [e]
      unfold recsF
      rw [if_pos (by rw [List.length_append, List.length_append]; omega), h1]
      simp only [if_true, Int.toNat_natCast]
      have h2 := ih (pre ++ recL r) f (fun q hq => hs q (List.mem_cons_of_mem _ hq)) (by simpa using hf)
      rw [List.length_append] at h2
      rw [h2]
      rfl
theorem flat_pos : ∀ (l : List PRec), (∀ r ∈ l, recB r = true) → l.length ≤ (l.flatMap recL).length := by
  intro l
  induction l with
  | nil => intro _; exact Nat.zero_le _
  | cons r l ih =>
    intro hs
    have := ih (fun q hq => hs q (List.mem_cons_of_mem _ hq))
    have := recL_pos (hs r (List.mem_cons_self ..))
    rw [List.flatMap_cons, List.length_append, List.length_cons]
    omega
/-- Right records, one behind the other, are read as they were. -/
theorem recsR_of {l : List PRec} (hs : ∀ r ∈ l, recB r = true ∧ r.body.size ≤ 1099511627776) : recsR (l.flatMap recL) = (l, true) := by
  have h1 := flat_pos l (fun r hr => (hs r hr).1)
  have h2 := recsF_of l [] ((l.flatMap recL).length + 1) hs (by omega)
  rw [List.nil_append, List.length_nil] at h2
  unfold recsR
  rw [h2]
theorem packE_flat : ∀ (ps : List (ByteArray × ByteArray)) (b : List Int), packE ps = some b → b = (ps.map recE).flatMap recL ∧ ∀ p ∈ ps, recB (recE p) = true := by
  intro ps
  induction ps with
  | nil => intro b h; simp only [packE, Option.some.injEq] at h; rw [← h]; exact ⟨rfl, fun p hp => by cases hp⟩
  | cons p ps ih =>
    intro b h
    unfold packE at h
    split at h
    · rename_i hr
      cases hq : packE ps with
      | none => rw [hq] at h; cases h
      | some b' =>
        rw [hq] at h
        simp only [Option.map_some, Option.some.injEq] at h
        obtain ⟨a1, a2⟩ := ih _ hq
        refine ⟨by rw [← h, a1, List.map_cons, List.flatMap_cons], fun q hq => ?_⟩
        rcases List.mem_cons.mp hq with rfl | hq
        · exact hr
        · exact a2 q hq
    · cases h
theorem packX_read {ps : List (ByteArray × ByteArray)} (hs : ∀ p ∈ ps, p.2.size ≤ 1099511627776) (h : (packX ps).2 = true) : recsR (packX ps).1 = (ps.map recE, true) := by
  unfold packX at h ⊢
  cases hq : packE ps with
  | none => rw [hq] at h; cases h
  | some b =>
    obtain ⟨a1, a2⟩ := packE_flat _ _ hq
    simp only
    rw [a1]
    refine recsR_of fun r hr => ?_
    obtain ⟨p, hp, rfl⟩ := List.mem_map.mp hr
    exact ⟨a2 p hp, hs p hp⟩

theorem attrOf_app_ne {ks bs' : List (ByteArray × ByteArray)} {u : ByteArray} (h : ∀ p ∈ ks, p.1 ≠ u) : attrOf (ks ++ bs') u = attrOf bs' u := by
  induction ks with
  | nil => rfl
  | cons p ks ih =>
    rw [List.cons_append, attrOf, if_neg (h p (List.mem_cons_self ..))]
    exact ih (fun q hq => h q (List.mem_cons_of_mem _ hq))
/-- Another address is found as before. -/
theorem attrOf_insE_ne {r : PRec} {u : ByteArray} (h : r.url ≠ u) : ∀ (es : List (ByteArray × ByteArray)) (put : Bool), attrOf (insE r put es) u = attrOf es u := by
  intro es
  induction es with
  | nil => intro put; cases put <;> simp [insE, attrOf, h]
  | cons e es ih =>
    intro put
    rw [insE, List.append_assoc, attrOf_app_ne (by intro p hp; split at hp <;> simp at hp; rw [hp]; exact h)]
    by_cases he : e.1 = r.url
    · rw [if_pos he, List.nil_append, ih, attrOf, if_neg (by rw [he]; exact h)]
    · rw [if_neg he, List.singleton_append, attrOf, attrOf, ih]
theorem attrOf_insE_drop {r : PRec} : ∀ (es : List (ByteArray × ByteArray)), attrOf (insE r true es) r.url = (⟨#[]⟩, false) := by
  intro es
  induction es with
  | nil => rfl
  | cons e es ih =>
    rw [insE]
    simp only [Bool.not_true, Bool.false_and, Bool.true_or, Bool.false_eq_true, if_false, List.nil_append]
    by_cases he : e.1 = r.url
    · rw [if_pos he, List.nil_append, ih]
    · rw [if_neg he, List.singleton_append, attrOf, if_neg he, ih]
theorem attrOf_insE_keep {r : PRec} : ∀ (es : List (ByteArray × ByteArray)), attrOf (insE r false es) r.url = (r.body, true) := by
  intro es
  induction es with
  | nil => simp [insE, attrOf]
  | cons e es ih =>
    rw [insE]
    cases hs : slt e.1 r.url
    · simp [attrOf]
    · have he : e.1 ≠ r.url := fun e' => by rw [e', slt_irr] at hs; cases hs
      simp only [Bool.not_false, Bool.not_true, Bool.and_false, Bool.or_false, Bool.false_eq_true, if_false, List.nil_append, if_neg he, List.singleton_append]
      rw [attrOf, if_neg he, ih]

/-- What the last one of an address says: nothing where there is none. -/
def lastOf : List PRec → ByteArray → ByteArray × Bool → ByteArray × Bool
  | [], _, x => x
  | r :: rs, u, x => lastOf rs u (if r.url = u then (if r.kind = 1 then (r.body, true) else (⟨#[]⟩, false)) else x)
theorem attrOf_idxN : ∀ (rs : List PRec) (out : List (ByteArray × ByteArray)) (u : ByteArray), attrOf (idxN rs out) u = lastOf rs u (attrOf out u) := by
  intro rs
  induction rs with
  | nil => intro out u; rfl
  | cons r rs ih =>
    intro out u
    rw [idxN, ih, lastOf]
    congr 1
    by_cases hu : r.url = u
    · subst hu
      rw [if_pos rfl]
      by_cases hk : r.kind = 1
      · rw [if_pos hk, decide_eq_false (by simp [hk]), attrOf_insE_keep]
      · rw [if_neg hk, decide_eq_true hk, attrOf_insE_drop]
    · rw [if_neg hu, attrOf_insE_ne hu]
theorem attrOf_idxOf (rs : List PRec) (u : ByteArray) : attrOf (idxOf rs) u = lastOf rs u (⟨#[]⟩, false) := attrOf_idxN rs [] u

/-- A record behind all that stands is put behind them. -/
theorem insE_end {p : ByteArray × ByteArray} : ∀ (es : List (ByteArray × ByteArray)), (∀ e ∈ es, slt e.1 p.1 = true) → insE (recE p) false es = es ++ [p] := by
  intro es
  induction es with
  | nil => intro _; rfl
  | cons e es ih =>
    intro h
    have hs : slt e.1 (recE p).url = true := h e (List.mem_cons_self ..)
    have he : e.1 ≠ (recE p).url := fun e' => by rw [e', slt_irr] at hs; cases hs
    rw [insE]
    simp only [hs, Bool.not_false, Bool.not_true, Bool.and_false, Bool.or_false, Bool.false_eq_true, if_false, List.nil_append, List.cons_append, if_neg he]
    rw [ih (fun q hq => h q (List.mem_cons_of_mem _ hq))]
theorem idxN_asc : ∀ (ps out : List (ByteArray × ByteArray)), (out ++ ps).Pairwise (fun a b => slt a.1 b.1 = true) → idxN (ps.map recE) out = out ++ ps := by
  intro ps
  induction ps with
  | nil => intro out _; simp [idxN]
  | cons p ps ih =>
    intro out h
    have hlt : ∀ e ∈ out, slt e.1 p.1 = true := fun e he => (List.pairwise_append.mp h).2.2 e he p (List.mem_cons_self ..)
    rw [List.map_cons, idxN]
    have e : decide ((recE p).kind ≠ 1) = false := by simp [recE]
    rw [e, insE_end _ hlt, ih _ (by simpa using h)]
    simp
/-- An ascending index is what its own records make. -/
theorem idxOf_own {ps : List (ByteArray × ByteArray)} (h : ps.Pairwise (fun a b => slt a.1 b.1 = true)) : idxOf (ps.map recE) = ps := idxN_asc ps [] h
end Go.Proofs.Ytmpgbonolmmcpaa

/- The index, plainly: it is ascending. No condition. -/
namespace Go.Proofs.Ytmpgbonolmmcpaa
open Go.RowKit
set_option maxRecDepth 100000
set_option linter.unusedVariables false

theorem less_cons (a b : UInt8) (x y : List UInt8) : Op.bytesLess (a :: x) (b :: y) = true ↔ a.toNat < b.toNat ∨ (a = b ∧ Op.bytesLess x y = true) := by
  simp only [Op.bytesLess, Bool.or_eq_true, Bool.and_eq_true, decide_eq_true_eq, beq_iff_eq, UInt8.lt_iff_toNat_lt]
theorem less_total : ∀ (x y : List UInt8), Op.bytesLess x y = false → x ≠ y → Op.bytesLess y x = true := by
  intro x
  induction x with
  | nil =>
    intro y h hne
    cases y with
    | nil => exact absurd rfl hne
    | cons b y => simp [Op.bytesLess] at h
  | cons a x ih =>
    intro y h hne
    cases y with
    | nil => simp [Op.bytesLess]
    | cons b y =>
      rw [less_cons]
      have hn : ¬ (a.toNat < b.toNat ∨ (a = b ∧ Op.bytesLess x y = true)) := fun h' => by
        rw [(less_cons a b x y).mpr h'] at h; cases h
      by_cases hab : a = b
      · subst hab
        refine .inr ⟨rfl, ih y ?_ (fun e => hne (by rw [e]))⟩
        cases hq : Op.bytesLess x y with
        | false => rfl
        | true => exact absurd (.inr ⟨rfl, hq⟩) hn
      · have h1 : a.toNat ≠ b.toNat := fun e => hab (UInt8.toNat_inj.mp e)
        exact .inl (by omega)
theorem less_trans : ∀ (x y z : List UInt8), Op.bytesLess x y = true → Op.bytesLess y z = true → Op.bytesLess x z = true := by
  intro x
  induction x with
  | nil =>
    intro y z h1 h2
    cases z with
    | nil => cases y <;> simp [Op.bytesLess] at h2
    | cons c z => simp [Op.bytesLess]
  | cons a x ih =>
    intro y z h1 h2
    cases y with
    | nil => simp [Op.bytesLess] at h1
    | cons b y =>
      cases z with
      | nil => simp [Op.bytesLess] at h2
      | cons c z =>
        rw [less_cons] at h1 h2 ⊢
        rcases h1 with h1 | ⟨rfl, h1⟩
        · rcases h2 with h2 | ⟨rfl, h2⟩
          · exact .inl (by omega)
          · exact .inl h1
        · rcases h2 with h2 | ⟨rfl, h2⟩
          · exact .inl h2
          · exact .inr ⟨rfl, ih _ _ h1 h2⟩
theorem slt_total {a b : ByteArray} (h : slt a b = false) (hne : a ≠ b) : slt b a = true := less_total _ _ h (fun e => hne ((toList_eq_iff a b).mp e))
theorem slt_trans {a b c : ByteArray} (h1 : slt a b = true) (h2 : slt b c = true) : slt a c = true := less_trans _ _ _ h1 h2

abbrev Asc (es : List (ByteArray × ByteArray)) : Prop := es.Pairwise (fun a b => slt a.1 b.1 = true)
theorem insE_mem {r : PRec} : ∀ (es : List (ByteArray × ByteArray)) (put : Bool), ∀ p ∈ insE r put es, (put = false ∧ p = (r.url, r.body)) ∨ (p ∈ es ∧ p.1 ≠ r.url) := by
  intro es
  induction es with
  | nil => intro put p hp; cases put <;> simp [insE] at hp; exact .inl ⟨rfl, hp⟩
  | cons e es ih =>
    intro put p hp
    rw [insE, List.append_assoc] at hp
    rcases List.mem_append.mp hp with hp2 | hp
    · split at hp2
      · rename_i hc
        have hp3 := List.mem_singleton.mp hp2
        cases put
        · exact .inl ⟨rfl, hp3⟩
        · simp at hc
      · cases hp2
    · rcases List.mem_append.mp hp with hp | hp
      · split at hp
        · cases hp
        · rename_i he
          rw [List.mem_singleton.mp hp]
          exact .inr ⟨List.mem_cons_self .., he⟩
      · rcases ih _ p hp with ⟨h1, h2⟩ | ⟨h1, h2⟩
        · refine .inl ⟨?_, h2⟩
          cases put
          · rfl
          · simp at h1
        · exact .inr ⟨List.mem_cons_of_mem _ h1, h2⟩
theorem insE_asc {r : PRec} : ∀ (es : List (ByteArray × ByteArray)) (put : Bool), Asc es → Asc (insE r put es) := by
  intro es
  induction es with
  | nil => intro put _; cases put <;> simp [insE, Asc]
  | cons e es ih =>
    intro put h
    obtain ⟨h1, h2⟩ := List.pairwise_cons.mp h
    rw [insE, List.append_assoc]
    cases hs : slt e.1 r.url
    · have ha := ih (put || !false) h2
      have hm := insE_mem (r := r) es (put || !false)
      have hmm : ∀ p ∈ insE r (put || !false) es, p ∈ es ∧ p.1 ≠ r.url := fun p hp => by
        rcases hm p hp with ⟨q, _⟩ | q
        · cases put <;> simp at q
        · exact q
      have hb : Asc ((if e.1 = r.url then [] else [e]) ++ insE r (put || !false) es) := by
        split
        · exact ha
        · exact List.pairwise_cons.mpr ⟨fun p hp => h1 p (hmm p hp).1, ha⟩
      have hc : ∀ p ∈ (if e.1 = r.url then [] else [e]) ++ insE r (put || !false) es, slt r.url p.1 = true := fun p hp => by
        rcases List.mem_append.mp hp with hp | hp
        · split at hp
          · cases hp
          · rename_i he
            rw [List.mem_singleton.mp hp]
            exact slt_total hs he
        · have hp1 := h1 p (hmm p hp).1
          by_cases he : e.1 = r.url
          · rw [← he]; exact hp1
          · exact slt_trans (slt_total hs he) hp1
      split
      · exact List.pairwise_cons.mpr ⟨hc, hb⟩
      · exact hb
    · have he : e.1 ≠ r.url := fun e' => by rw [e', slt_irr] at hs; cases hs
      have ha := ih (put || !true) h2
      rw [if_neg (by simp), if_neg he]
      refine List.pairwise_cons.mpr ⟨fun p hp => ?_, ha⟩
      rcases insE_mem es _ p hp with ⟨_, rfl⟩ | ⟨q, _⟩
      · exact hs
      · exact h1 p q
theorem idxN_rise : ∀ (rs : List PRec) (out : List (ByteArray × ByteArray)), Asc out → Asc (idxN rs out) := by
  intro rs
  induction rs with
  | nil => intro out h; exact h
  | cons r rs ih => intro out h; exact ih _ (insE_asc _ _ h)
/-- An index is ascending. -/
theorem idxOf_rise (rs : List PRec) : Asc (idxOf rs) := idxN_rise rs [] List.Pairwise.nil
end Go.Proofs.Ytmpgbonolmmcpaa
