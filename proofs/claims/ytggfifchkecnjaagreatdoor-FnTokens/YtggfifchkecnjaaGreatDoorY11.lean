/- What a package-level table holds that a row lists: its cells, in every world that turns nothing of what was there. -/
import Derived.Test.YtggfifchkecnjaaGreatDoorY6
import Derived.Lib.LaidTab
import Derived.MakeChecks
import Derived.Test.YtggfifchkecnjaaGreatDoorY3
import Derived.Test.YtggfifchkecnjaaGreatDoorY7
import Derived.Test.YtggfifchkecnjaaGreatDoorY9
namespace Go.Proofs.YtggfifchkecnjaaGreatDoor
open Go.RowKit
set_option maxRecDepth 100000
set_option linter.unusedVariables false

structure TabAt (g : Nat) (xs : List Int) (w : World) : Prop where
  cell : ∀ k, k < xs.length → w.cell? ⟨g, k, none⟩ = some (.int .i64 (xs.getD k 0))

theorem TabAt.below {g : Nat} {xs : List Int} {w w' : World} (h : TabAt g xs w) (hb : Below w.heap.size w w') : TabAt g xs w' := ⟨fun k hk => by
  have c := h.cell k hk
  have hlt : g < w.heap.size := by
    by_cases hlt : g < w.heap.size
    · exact hlt
    · exfalso; simp [World.cell?, Array.getElem?_eq_none (Nat.le_of_not_lt hlt)] at c
  exact (hb.cell (p := ⟨g, k, none⟩) hlt).trans c⟩

theorem laidVars_mem {P : Program} {w : World} {n : String} {d : DataW Unit} : ∀ {l : List (String × DataW Unit)} {ps : List MemPlace}, DataW.LaidVars P w l ps → (n, d) ∈ l →
    ∃ g t cs fuel p, P.globalNamed n = some g ∧ (P.globals[g]?).map (·.type) = some t ∧ w.var? P n = some cs ∧ DataW.trod (fun _ => ()) P w 0 (fun _ => true) false fuel t cs.toList = some (d, p)
  | [], _, _, hm => by cases hm
  | (n', d') :: r, _, h, hm => by
    obtain ⟨g, t, cs, fuel, p, q, h1, h2, h3, h4, h5, _⟩ := h
    rcases List.mem_cons.1 hm with e | e
    · cases e
      exact ⟨g, t, cs, fuel, p, h1, h2, h3, h4⟩
    · exact laidVars_mem h5 e

theorem trodVars_len {H : Type} {enc : TypeId × Value → H} {P : Program} {w : World} {sp : Nat → Bool} : ∀ {ns : List String} {gs : List (DataW H)} {ps : List MemPlace}, DataW.TrodVars enc P w sp ns gs ps → gs.length = ns.length
  | [], [], _, _ => rfl
  | [], _ :: _, _, h => h.elim
  | _ :: _, [], _, h => h.elim
  | _ :: ns, _ :: ds, _, ⟨_, _, _, _, _, _, _, _, _, _, h, _⟩ => by simp [trodVars_len h]

theorem tabAt_of {P : Program} {W : World} {name : String} {zs : List Int} {l : List (String × DataW Unit)} {g : Nat} {t e : TypeId} {n : Nat}
    (hg : P.globalNamed name = some g) (hty : (P.globals[g]?).map (·.type) = some t) (ht : P.underlying t = some (.array n e)) (he : P.underlying e = some (.int .i64)) (hce : P.cellsOf e = 1) (hct : P.cellsOf t = n)
    (h : laidMet P l W) (hm : (name, Lib.tabData .i64 zs) ∈ l) : TabAt g zs W := by
  obtain ⟨ps, hv, _⟩ := h
  obtain ⟨g', t', cs, fuel, p, hg', ht', hvar, hd⟩ := laidVars_mem hv hm
  obtain rfl := Option.some.inj (hg.symm.trans hg')
  obtain rfl := Option.some.inj (hty.symm.trans ht')
  have hT : Lib.TabIs P W name .i64 zs := by
    unfold Lib.TabIs
    rw [hvar, ← Lib.cells_of_tab ht he hce hct hd]
  exact ⟨fun k hk => hT.cell hg k hk⟩

abbrev Older (w : World) : Prop := TabAt 0 oldPoints w
end Go.Proofs.YtggfifchkecnjaaGreatDoor

/- Points among which no reference by number stands that could be the mark 65279. No condition. -/
namespace Go.Proofs.YtggfifchkecnjaaGreatDoor
open Go.RowKit
set_option maxRecDepth 100000
set_option linter.unusedVariables false

def pats : List (List Int) := [[59], [120, 59], [120, 52], [88, 52], [120, 70, 70, 70, 70, 70, 70, 70, 70, 59], [54, 53, 59], [49, 50, 56, 59], [48, 59], [48, 48, 48, 48, 48, 48, 48, 48, 48, 54, 53, 59], [53, 53, 50, 57, 54, 59], [49, 50, 51, 52, 53, 54, 55, 56, 59]]
theorem pats_low : ∀ p ∈ pats, ∀ c ∈ p, 1 ≤ c ∧ c ≤ 127 := by decide
def preB : List Int → List Int → Bool
  | [], _ => true
  | _ :: _, [] => false
  | a :: p, b :: l => a == b && preB p l
theorem preB_app {p l : List Int} (m : List Int) (h : preB p l = true) : preB p (l ++ m) = true := by
  induction p generalizing l with
  | nil => rfl
  | cons a p ih =>
    cases l with
    | nil => simp [preB] at h
    | cons b l => simp only [preB, Bool.and_eq_true, List.cons_append] at h ⊢; exact ⟨h.1, ih h.2⟩
theorem preB_is {p l : List Int} (h : preB p l = true) : ∃ m, l = p ++ m := by
  induction p generalizing l with
  | nil => exact ⟨l, rfl⟩
  | cons a p ih =>
    cases l with
    | nil => simp [preB] at h
    | cons b l =>
      simp only [preB, Bool.and_eq_true, beq_iff_eq] at h
      obtain ⟨m, rfl⟩ := ih h.2
      exact ⟨m, by rw [h.1]; rfl⟩
def headOk : List Int → Bool
  | [] => true
  | x :: r => if x = 35 then pats.any (fun p => preB p r) else true
def safeL : List Int → Bool
  | [] => true
  | x :: l => (if x = 38 then headOk l else true) && safeL l
def notNum : List Int → Bool
  | [] => true
  | x :: _ => !(x == 35)
theorem headOk_app {l m : List Int} (h : headOk l = true) (hm : notNum m = true) : headOk (l ++ m) = true := by
  cases l with
  | nil =>
    cases m with
    | nil => rfl
    | cons x m =>
      have : x ≠ 35 := by simpa [notNum] using hm
      simp [headOk, this]
  | cons x l =>
    by_cases hx : x = 35
    · simp only [headOk, if_pos hx, List.cons_append, List.any_eq_true] at h ⊢
      obtain ⟨p, hp, h⟩ := h
      exact ⟨p, hp, preB_app m h⟩
    · simp [headOk, hx]
theorem safe_app {l m : List Int} (h : safeL l = true) (hm : safeL m = true) (h0 : notNum m = true) : safeL (l ++ m) = true := by
  induction l with
  | nil => exact hm
  | cons x l ih =>
    simp only [safeL, List.cons_append, Bool.and_eq_true] at h ⊢
    refine ⟨?_, ih h.2⟩
    have h1 := h.1
    by_cases hx : x = 38
    · rw [if_pos hx] at h1 ⊢; exact headOk_app h1 h0
    · rw [if_neg hx]
theorem notNum_app {l m : List Int} (h : notNum l = true) (hm : notNum m = true) : notNum (l ++ m) = true := by
  cases l with
  | nil => exact hm
  | cons x l => exact h
theorem safe_drop {l : List Int} (k : Nat) (h : safeL l = true) : safeL (l.drop k) = true := by
  induction k generalizing l with
  | zero => exact h
  | succ k ih =>
    cases l with
    | nil => exact h
    | cons x l =>
      simp only [safeL, Bool.and_eq_true] at h
      exact ih h.2
theorem pre_map {f : Int → Int} (hf : ∀ x, 1 ≤ x → x ≤ 127 → f x = x) : ∀ {p l : List Int}, (∀ c ∈ p, 1 ≤ c ∧ c ≤ 127) → preB p l = true → preB p (l.map f) = true := by
  intro p
  induction p with
  | nil => intro l _ _; rfl
  | cons a p ih =>
    intro l hp h
    cases l with
    | nil => simp [preB] at h
    | cons b l =>
      simp only [preB, Bool.and_eq_true, beq_iff_eq, List.map_cons] at h ⊢
      have ha := hp a (List.mem_cons_self ..)
      rw [← h.1]
      exact ⟨(hf a ha.1 ha.2).symm, ih (fun c hc => hp c (List.mem_cons_of_mem _ hc)) h.2⟩
theorem safe_map {f : Int → Int} (hf : ∀ x, 1 ≤ x → x ≤ 127 → f x = x) (hg : ∀ x, f x = 38 ∨ f x = 35 → f x = x) {l : List Int} (h : safeL l = true) : safeL (l.map f) = true := by
  induction l with
  | nil => rfl
  | cons x l ih =>
    simp only [safeL, List.map_cons, Bool.and_eq_true] at h ⊢
    refine ⟨?_, ih h.2⟩
    by_cases hx : f x = 38
    · rw [if_pos hx]
      have e := hg x (.inl hx)
      have h1 := h.1
      rw [if_pos (e ▸ hx)] at h1
      cases l with
      | nil => rfl
      | cons y l =>
        by_cases hy : f y = 35
        · have e2 := hg y (.inr hy)
          have hy' : y = 35 := by rw [← e2]; exact hy
          simp only [headOk, if_pos hy', List.any_eq_true] at h1
          simp only [headOk, List.map_cons, if_pos hy, List.any_eq_true]
          obtain ⟨p, hp, h1⟩ := h1
          exact ⟨p, hp, pre_map hf (pats_low p hp) h1⟩
        · simp [headOk, hy]
    · rw [if_neg hx]
theorem pre_dec : ∀ {p l : List Int}, (∀ c ∈ p, 1 ≤ c ∧ c ≤ 127) → preB p l = true → preB p (dec l) = true := by
  intro p
  induction p with
  | nil => intro l _ _; rfl
  | cons a p ih =>
    intro l hp h
    cases l with
    | nil => simp [preB] at h
    | cons b l =>
      simp only [preB, Bool.and_eq_true, beq_iff_eq] at h
      have ha := hp a (List.mem_cons_self ..)
      rw [dec_ascii l (by omega)]
      simp only [preB, Bool.and_eq_true, beq_iff_eq]
      exact ⟨h.1, ih (fun c hc => hp c (List.mem_cons_of_mem _ hc)) h.2⟩
theorem tail_drop (k : Nat) (r : List Int) : ∀ (p lo hi : Int), ∃ n, (tailOf p k lo hi r).2 = r.drop n := by
  induction k generalizing r with
  | zero => intro p lo hi; exact ⟨0, rfl⟩
  | succ k ih =>
    intro p lo hi
    cases r with
    | nil => exact ⟨0, rfl⟩
    | cons c r =>
      unfold tailOf
      split
      · obtain ⟨n, e⟩ := ih r (p * 64 + c - 128) 128 191
        exact ⟨n + 1, e⟩
      · exact ⟨0, rfl⟩
theorem tail_high (k : Nat) (r : List Int) : ∀ (p lo hi : Int), 2 ≤ p → 128 ≤ lo → 128 ≤ (tailOf p (k + 1) lo hi r).1 := by
  induction k generalizing r with
  | zero =>
    intro p lo hi hp hlo
    cases r with
    | nil => rw [tail_end]; decide
    | cons c r =>
      by_cases h : lo ≤ c ∧ c ≤ hi
      · rw [tail_in p 0 r h.1 h.2]; show 128 ≤ p * 64 + c - 128; omega
      · rw [tail_out p 0 r (by omega)]; show (128 : Int) ≤ 65533; decide
  | succ k ih =>
    intro p lo hi hp hlo
    cases r with
    | nil => rw [tail_end]; decide
    | cons c r =>
      by_cases h : lo ≤ c ∧ c ≤ hi
      · rw [tail_in p (k + 1) r h.1 h.2]; exact ih r _ _ _ (by omega) (by omega)
      · rw [tail_out p (k + 1) r (by omega)]; show (128 : Int) ≤ 65533; decide
theorem safe_dec : ∀ (n : Nat) {l : List Int}, l.length ≤ n → (∀ y ∈ l, 0 ≤ y ∧ y ≤ 195) → safeL l = true → safeL (dec l) = true := by
  intro n
  induction n with
  | zero =>
    intro l hl _ _
    have : l = [] := List.length_eq_zero_iff.mp (by omega)
    subst this; rfl
  | succ n ih =>
    intro l hl hb h
    cases l with
    | nil => rfl
    | cons b r =>
      have hr := ih (l := r) (by simp at hl; omega) (fun y hy => hb y (List.mem_cons_of_mem _ hy))
      simp only [safeL, Bool.and_eq_true] at h
      have h0 := hb b (List.mem_cons_self ..)
      by_cases hb1 : b < 128
      · rw [dec_ascii r hb1]
        simp only [safeL, Bool.and_eq_true]
        refine ⟨?_, hr h.2⟩
        by_cases hx : b = 38
        · have h1 := h.1
          rw [if_pos hx] at h1 ⊢
          cases r with
          | nil => rfl
          | cons y r =>
            by_cases hy : y < 128
            · rw [dec_ascii r hy]
              by_cases h35 : y = 35
              · simp only [headOk, if_pos h35, List.any_eq_true] at h1 ⊢
                obtain ⟨p, hp, h1⟩ := h1
                exact ⟨p, hp, pre_dec (pats_low p hp) h1⟩
              · simp [headOk, h35]
            · have hyb := hb y (by simp)
              have : (stepOf y r).1 ≠ 35 := by
                unfold stepOf
                rw [if_neg hy]
                split
                · rename_i h194
                  have hh : 128 ≤ (tailOf (y - 192) 1 (loOf y) (hiOf y) r).1 := tail_high 0 r (y - 192) (loOf y) (hiOf y) (by omega) (lo_hi y).1
                  omega
                · rw [if_neg (by omega), if_neg (by omega)]; show (65533 : Int) ≠ 35; decide
              rw [dec_cons]
              simp [headOk, this]
        · rw [if_neg hx]
      · by_cases h194 : 194 ≤ b
        · rw [dec_two r ⟨h194, by omega⟩]
          have hh : 128 ≤ (tailOf (b - 192) 1 (loOf b) (hiOf b) r).1 := tail_high 0 r (b - 192) (loOf b) (hiOf b) (by omega) (lo_hi b).1
          obtain ⟨m, hm⟩ := tail_drop 1 r (b - 192) (loOf b) (hiOf b)
          simp only [safeL, Bool.and_eq_true]
          refine ⟨by rw [if_neg (by omega)], ?_⟩
          rw [hm]
          exact ih (by rw [List.length_drop]; simp at hl; omega) (fun y hy => hb y (List.mem_cons_of_mem _ (List.mem_of_mem_drop hy))) (safe_drop m h.2)
        · rw [dec_bad r (.inl ⟨by omega, by omega⟩)]
          simp only [safeL, Bool.and_eq_true]
          exact ⟨by rw [if_neg (by decide)], hr h.2⟩
theorem safe_at {l : List Int} (h : safeL l = true) {k : Nat} (h1 : atL l k = 38) (h2 : atL l (k + 1) = 35) : ∃ p ∈ pats, ∃ m, l.drop (k + 2) = p ++ m := by
  have hk : k < l.length := by
    by_cases hk : k < l.length
    · exact hk
    · rw [atL_out (by omega)] at h1; omega
  have hk1 : k + 1 < l.length := by
    by_cases hk : k + 1 < l.length
    · exact hk
    · rw [atL_out (by omega)] at h2; omega
  rw [atL_in hk] at h1
  rw [atL_in hk1] at h2
  have e1 : l.getD k 0 = l[k] := by simp [List.getD_eq_getElem?_getD, hk]
  have e2 : l.getD (k + 1) 0 = l[k + 1] := by simp [List.getD_eq_getElem?_getD, hk1]
  have := safe_drop k h
  rw [List.drop_eq_getElem_cons hk, List.drop_eq_getElem_cons hk1] at this
  rw [← e1, ← e2, h1, h2] at this
  simp only [safeL, headOk, if_true, Bool.and_eq_true, List.any_eq_true] at this
  obtain ⟨⟨p, hp, h⟩, _⟩ := this
  obtain ⟨m, e⟩ := preB_is h
  exact ⟨p, hp, m, e⟩
theorem four_not (ds : List Int) (hd : ∀ d ∈ ds, 0 ≤ d ∧ d < 16) : (digVal 16 (4 :: ds)).2 ≤ 7 → (digVal 16 (4 :: ds)).1 ≠ 65279 := by
  have key : ∀ (n : Nat) (ds : List Int), ds.length = n → (∀ d ∈ ds, 0 ≤ d ∧ d < 16) → (digVal 16 (4 :: ds)).2 = n + 1 ∧ (n ≤ 6 → 4 * 16 ^ n ≤ (digVal 16 (4 :: ds)).1 ∧ (digVal 16 (4 :: ds)).1 < 5 * 16 ^ n) := by
    intro n
    induction n with
    | zero =>
      intro ds hl _
      have : ds = [] := List.length_eq_zero_iff.mp hl
      subst this
      exact ⟨rfl, fun _ => by decide⟩
    | succ n ih =>
      intro ds hl hd
      obtain ⟨es, e, rfl⟩ : ∃ es e, ds = es ++ [e] := ⟨ds.dropLast, ds.getLast (by intro h; simp [h] at hl), (List.dropLast_concat_getLast _).symm⟩
      have hl' : es.length = n := by simpa using hl
      obtain ⟨h1, h2⟩ := ih es hl' (fun d hd' => hd d (List.mem_append_left _ hd'))
      have hs : digVal 16 (4 :: (es ++ [e])) = digStep 16 (digVal 16 (4 :: es)) e := by unfold digVal; rw [← List.cons_append, List.foldl_append]; rfl
      have he := hd e (by simp)
      rw [hs]
      unfold digStep
      simp only
      rw [if_pos (.inl (by omega)), h1]
      refine ⟨rfl, fun hn => ?_⟩
      rw [if_pos (by omega)]
      have := h2 (by omega)
      have e16 : (16 : Int) ^ (n + 1) = 16 ^ n * 16 := Int.pow_succ ..
      rw [e16]
      constructor <;> omega
  obtain ⟨h1, h2⟩ := key ds.length ds rfl hd
  rw [h1]
  intro hn
  have := h2 (by omega)
  have hn : ds.length ≤ 6 := by omega
  obtain ⟨n, hn'⟩ : ∃ n, n = ds.length := ⟨_, rfl⟩
  rw [← hn'] at this hn
  match n, hn with
  | 0, _ => omega
  | 1, _ => omega
  | 2, _ => omega
  | 3, _ => omega
  | 4, _ => omega
  | 5, _ => omega
  | 6, _ => omega
  | n + 7, h => omega
end Go.Proofs.YtggfifchkecnjaaGreatDoor

/- The contracts of UtfRead, the program's and the specification's, at every slice of bytes. -/
namespace Go.Proofs.YtggfifchkecnjaaGreatDoor
open Go.RowKit
set_option maxRecDepth 100000
set_option linter.unusedVariables false

theorem take3 {xs : List Int} (h : 3 ≤ xs.length) : xs.take 3 = [xs[0], xs[1], xs[2]] := by
  match xs, h with
  | a :: b :: c :: r, _ => rfl
theorem unmark_short {xs : List Int} (h : ¬ 3 ≤ xs.length) : unmark xs = xs := by
  unfold unmark; rw [if_neg]
  intro e
  have := congrArg List.length e
  simp at this; omega
theorem unmark_yes {xs : List Int} (h : 3 ≤ xs.length) (h0 : xs[0] = 239) (h1 : xs[1] = 187) (h2 : xs[2] = 191) : unmark xs = xs.drop 3 := by
  unfold unmark; rw [if_pos]; rw [take3 h, h0, h1, h2]
theorem unmark_no {xs : List Int} (h : 3 ≤ xs.length) (hn : xs[0] ≠ 239 ∨ xs[1] ≠ 187 ∨ xs[2] ≠ 191) : unmark xs = xs := by
  unfold unmark; rw [if_neg]; rw [take3 h]; simp; omega

theorem Sl.drop3 {K : IntKind} {w : World} {b off cap : Nat} {xs : List Int} (h : Sl K w (.slice (some ⟨b, off, none⟩) xs.length cap) xs) (h3 : 3 ≤ xs.length) (hc : 3 < cap) :
    Sl K w (.slice (some ⟨b, off + 3, none⟩) (xs.length - 3) (cap - 3)) (xs.drop 3) := by
  obtain ⟨a', c', e, hl, hm, hnn, ha⟩ := h
  cases e
  refine ⟨some ⟨b, off + 3, none⟩, cap - 3, by simp, by simp; omega, by omega, (fun h => by cases h), fun k hk => ⟨b, off + 3, rfl, ?_⟩⟩
  simp at hk
  obtain ⟨b2, o2, e2, c2⟩ := ha (3 + k) (by omega)
  cases e2
  have e3 : (xs.drop 3).getD k 0 = xs.getD (3 + k) 0 := by simp [List.getD_eq_getElem?_getD]
  rw [e3, Nat.add_assoc]; exact c2

theorem Sl.drop3_end {K : IntKind} {w : World} {a : Addr} {xs : List Int} (h : xs.length = 3) : Sl K w (.slice (some a) (xs.length - 3) 0) (xs.drop 3) := by
  have e : xs.drop 3 = [] := List.drop_eq_nil_of_le (by omega)
  rw [e, h]
  exact ⟨some a, 0, rfl, Nat.le_refl _, Nat.zero_le _, fun _ => rfl, fun k hk => absurd hk (Nat.not_lt_zero _)⟩

theorem unmark_any {a : Option Addr} {m c : Nat} {xs : List Int} {w : World} (h : Sl .u8 w (.slice a m c) xs) (hn : xs.length ≤ 1099511627776) :
    Calls Tryz.prog 54 #[.slice a m c] w fun e w' => (∃ a' m' c', e = .returned (.slice a' m' c') ∧ Sl .u8 w (.slice a' m' c') (unmark xs) ∧ (∀ b off, a' = some ⟨b, off, none⟩ → ∃ off', a = some ⟨b, off', none⟩)) ∧ w' = w := by
  have h0 := h
  obtain ⟨a', c', ev, hmc, hcm, hnone, ha⟩ := h
  cases ev
  by_cases h3 : 3 ≤ xs.length
  · obtain ⟨b, off, rfl, c0⟩ := ha 0 (by omega)
    obtain ⟨b1, o1, eb, c1⟩ := ha 1 (by omega)
    cases eb
    obtain ⟨b2, o2, eb, c2⟩ := ha 2 (by omega)
    cases eb
    have hl0 : 0 < xs.length := by omega
    have hl1 : 1 < xs.length := by omega
    have hl2 : 2 < xs.length := by omega
    have d0 : w.cell? ⟨b, off, none⟩ = some (.int .u8 xs[0]) := by simpa [List.getD_eq_getElem?_getD, hl0] using c0
    have d1 : w.cell? ⟨b, off + 1, none⟩ = some (.int .u8 xs[1]) := by simpa [List.getD_eq_getElem?_getD, hl1] using c1
    have d2 : w.cell? ⟨b, off + 2, none⟩ = some (.int .u8 xs[2]) := by simpa [List.getD_eq_getElem?_getD, hl2] using c2
    clear ha hnone c0 c1 c2
    by_cases e0 : xs[0] = 239
    · by_cases e1 : xs[1] = 187
      · by_cases e2 : xs[2] = 191
        · rw [unmark_yes h3 e0 e1 e2]
          have f0 : (xs[0] == 239) = true := by simpa using e0
          have f1 : (xs[1] == 187) = true := by simpa using e1
          have f2 : (xs[2] == 191) = true := by simpa using e2
          clear e0 e1 e2
          go_enter Tryz.func54, Tryz.ntmps54
          go_wp2
          · go_ret
            have hc3 : c = 3 := by assumption
            subst hc3
            exact ⟨⟨_, _, _, rfl, Sl.drop3_end (by omega), fun b off h => by cases h; first | rfl | exact ⟨_, rfl⟩⟩, rfl⟩
          · go_ret
            have hc3 : ¬ c = 3 := by assumption
            exact ⟨⟨_, _, _, rfl, h0.drop3 h3 (by omega), fun b off h => by cases h; first | rfl | exact ⟨_, rfl⟩⟩, rfl⟩
        · rw [unmark_no h3 (.inr (.inr e2))]
          have f0 : (xs[0] == 239) = true := by simpa using e0
          have f1 : (xs[1] == 187) = true := by simpa using e1
          have f2 : (xs[2] == 191) = false := by simpa using e2
          clear e0 e1 e2
          go_enter Tryz.func54, Tryz.ntmps54
          go_wp2
          go_ret
          exact ⟨⟨_, _, _, rfl, h0, fun b off h => ⟨off, h⟩⟩, rfl⟩
      · rw [unmark_no h3 (.inr (.inl e1))]
        have f1 : (xs[1] == 187) = false := by simpa using e1
        have f0 : (xs[0] == 239) = true := by simpa using e0
        clear e0 e1
        go_enter Tryz.func54, Tryz.ntmps54
        go_wp2
        go_ret
        exact ⟨⟨_, _, _, rfl, h0, fun b off h => ⟨off, h⟩⟩, rfl⟩
    · rw [unmark_no h3 (.inl e0)]
      have f0 : (xs[0] == 239) = false := by simpa using e0
      clear e0
      go_enter Tryz.func54, Tryz.ntmps54
      go_wp2
      go_ret
      exact ⟨⟨_, _, _, rfl, h0, fun b off h => ⟨off, h⟩⟩, rfl⟩
  · rw [unmark_short h3]
    go_enter Tryz.func54, Tryz.ntmps54
    go_wp2
    go_ret
    exact ⟨⟨_, _, _, rfl, h0, fun b off h => ⟨off, h⟩⟩, rfl⟩

theorem byte_ok {xs : List Int} (h : ∀ n ∈ xs, (Lit.int .u8 n).wf = true) : ∀ x ∈ xs, 0 ≤ x ∧ x ≤ 255 := fun x hx => by
  have h1 := h x hx
  have e1 : IntKind.u8.min = 0 := rfl
  have e2 : IntKind.u8.max = 255 := rfl
  simp [Lit.wf, e1, e2] at h1
  omega

theorem unmark_mem {xs : List Int} (h : ∀ x ∈ xs, 0 ≤ x ∧ x ≤ 255) : ∀ x ∈ unmark xs, 0 ≤ x ∧ x ≤ 255 := fun x hx => by
  unfold unmark at hx; split at hx
  · exact h x (List.mem_of_mem_drop hx)
  · exact h x hx

theorem RdRoom.cut {B g n : Nat} {w w' : World} {out : List Int} (h : RdRoom B g n w w' out) (hl : out.length ≤ n) : Sl .i64 w' (.slice (some ⟨g, 0, none⟩) out.length n) out := by
  obtain ⟨zs, ho, hz, ht, hg⟩ := h
  subst hz
  obtain ⟨a, cap, e, h1, h2, h3, hc⟩ := ho.sl
  cases e
  refine ⟨some ⟨g, 0, none⟩, _, rfl, by omega, h2, (fun h => by cases h), fun k hk => ?_⟩
  obtain ⟨b, off, e, c⟩ := hc k (by omega)
  refine ⟨b, off, e, ?_⟩
  have e2 : out.getD k 0 = zs.getD k 0 := by
    conv => lhs; rw [← ht]
    simp [List.getD_eq_getElem?_getD, hk]
  rw [e2]; exact c

theorem iread_any {v : Value} {xs : List Int} {w : World} (h : Sl .u8 w v xs) (hb : ∀ x ∈ xs, 0 ≤ x ∧ x ≤ 255) (hn : xs.length ≤ 1099511627776) :
    Calls Tryz.prog 26 #[v] w fun e w' => ∃ v', e = .returned v' ∧ Own w.heap.size 3 .i64 w' v' (utfRead xs) ∧ Below w.heap.size w w' := by
  have h0 := h
  obtain ⟨a, ca, rfl, _, _, _, ha⟩ := h
  unfold utfRead
  by_cases hlen : xs.length ≤ 3000
  · rw [if_pos hlen]
    obtain ⟨i0, hi, hz0, hz1, hz2⟩ := info_parts Tryz.infoI
    have hul := unmark_len xs
    have hdl := dec_len _ (unmark xs) (Nat.le_refl _)
    have HA : Hid (∀ b off, a = some ⟨b, off, none⟩ → 0 < xs.length → b < w.heap.size) := fun b off e hp => by
      obtain ⟨b', o', e', c'⟩ := ha 0 hp
      rw [e] at e'; cases e'
      by_cases hlt : b < w.heap.size
      · exact hlt
      · exfalso; simp [World.cell?, Array.getElem?_eq_none (Nat.le_of_not_lt hlt)] at c'
    clear ha
    go_enter Tryz.func26, Tryz.ntmps26
    go_wp2_with (at_make; refine wpList_mkn _ rfl (.tmp 9) (.tmp 9) 24 rfl 3 i0 .i64 Tryz.underlying24 hi hz0 hz1 xs.length xs.length xs.length rfl rfl rfl rfl (by rw [hz2]; omega) (by unfold maxLen; omega) ?_; intro w1 hown hbel; have h1 := h0.below hbel)
    go_at_call 54
    refine (unmark_any h1 (by omega)).mono ?_
    rintro e w2 ⟨⟨a', m', c', rfl, h2, hsame⟩, rfl⟩
    have HS : Hid (∀ b off, a' = some ⟨b, off, none⟩ → ∃ off', a = some ⟨b, off', none⟩) := hsame
    clear hsame
    go_wp2_with fail
    go_at_call 53
    refine (read_any hown (by simp) h2 (unmark_mem hb) (fun b off hp e => by obtain ⟨o', e'⟩ := HS.out b off e; have := HA.out b o' e' (by omega); omega) hul hlen).mono ?_
    rintro e w3 ⟨rfl, hroom⟩
    have hcut := hroom.cut (by omega)
    have hb3 : Below w.heap.size w w3 := by
      obtain ⟨_, _, _, _, hg⟩ := hroom
      exact hbel.grown hg hbel.size (fun k hk => by cases hk; exact Nat.le_refl _)
    clear HS HA h1 h2 h0
    go_wp2_with fail
    go_at_call 39
    refine (copyOf_any hcut (by omega)).mono ?_
    rintro e w4 ⟨v4, rfl, o4, b4⟩
    go_wp2
    go_ret
    exact ⟨_, rfl, o4.base hb3.size, hb3.trans (b4.mono hb3.size)⟩
  · rw [if_neg hlen]
    go_enter Tryz.func26, Tryz.ntmps26
    go_wp2
    go_ret
    exact ⟨_, rfl, own_empty _ _ _, (Below.refl _ _).alloc (Nat.le_refl _) _⟩

set_option maxHeartbeats 4000000 in
theorem sread_any {v : Value} {xs : List Int} {w : World} (h : Sl .u8 w v xs) (hb : ∀ x ∈ xs, 0 ≤ x ∧ x ≤ 255) (hn : xs.length ≤ 1099511627776) :
    Calls Tryz.prog 156 #[v] w fun e w' => ∃ v', e = .returned v' ∧ Own w.heap.size 3 .i64 w' v' (utfRead xs) ∧ Below w.heap.size w w' := by
  have h0 := h
  obtain ⟨a, ca, rfl, hca, hcm, _, ha⟩ := h
  unfold utfRead
  by_cases hlen : xs.length ≤ 3000
  · rw [if_pos hlen]
    have hum := unmark_mem hb
    have hul := unmark_len xs
    by_cases h3 : 3 ≤ xs.length
    · obtain ⟨b, off, rfl, c0⟩ := ha 0 (by omega)
      obtain ⟨b1, o1, eb, c1⟩ := ha 1 (by omega)
      cases eb
      obtain ⟨b2, o2, eb, c2⟩ := ha 2 (by omega)
      cases eb
      have hl0 : 0 < xs.length := by omega
      have hl1 : 1 < xs.length := by omega
      have hl2 : 2 < xs.length := by omega
      have d0 : w.cell? ⟨b, off, none⟩ = some (.int .u8 xs[0]) := by simpa [List.getD_eq_getElem?_getD, hl0] using c0
      have d1 : w.cell? ⟨b, off + 1, none⟩ = some (.int .u8 xs[1]) := by simpa [List.getD_eq_getElem?_getD, hl1] using c1
      have d2 : w.cell? ⟨b, off + 2, none⟩ = some (.int .u8 xs[2]) := by simpa [List.getD_eq_getElem?_getD, hl2] using c2
      clear ha c0 c1 c2
      by_cases e0 : xs[0] = 239
      · have f0 : (xs[0] == 239) = true := by simpa using e0
        by_cases e1 : xs[1] = 187
        · have f1 : (xs[1] == 187) = true := by simpa using e1
          by_cases e2 : xs[2] = 191
          · have f2 : (xs[2] == 191) = true := by simpa using e2
            rw [unmark_yes h3 e0 e1 e2] at hum hul ⊢
            clear e0 e1 e2
            have HU : Hid (∀ x ∈ xs.drop 3, 0 ≤ x ∧ x ≤ 255) := hum
            clear hum hb
            by_cases hc3 : ca = 3
            · subst hc3
              have hx3 : xs.length = 3 := by omega
              have hd : Sl .u8 w (.slice (some ⟨b, off, none⟩) 0 0) (xs.drop 3) := by have h := Sl.drop3_end (K := .u8) (w := w) (a := ⟨b, off, none⟩) hx3; rw [hx3] at h; exact h
              clear hx3
              go_enter Tryz.func156, Tryz.ntmps156
              go_wp2_with fail
              go_at_call 35
              refine (l1Read_any hd HU.out (by simp; omega)).mono ?_
              rintro e w4 ⟨v4, rfl, o4, b4⟩
              go_wp2
              go_ret
              exact ⟨_, rfl, o4, b4⟩
            · have hd := h0.drop3 h3 (by omega)
              go_enter Tryz.func156, Tryz.ntmps156
              go_wp2_with fail
              go_at_call 35
              refine (l1Read_any hd HU.out (by simp; omega)).mono ?_
              rintro e w4 ⟨v4, rfl, o4, b4⟩
              go_wp2
              go_ret
              exact ⟨_, rfl, o4, b4⟩
          · rw [unmark_no h3 (.inr (.inr e2))]
            have f2 : (xs[2] == 191) = false := by simpa using e2
            have HU : Hid (∀ x ∈ xs, 0 ≤ x ∧ x ≤ 255) := hb
            clear e0 e1 e2 hum hb
            go_enter Tryz.func156, Tryz.ntmps156
            go_wp2_with fail
            go_at_call 35
            refine (l1Read_any h0 HU.out (by omega)).mono ?_
            rintro e w4 ⟨v4, rfl, o4, b4⟩
            go_wp2
            go_ret
            exact ⟨_, rfl, o4, b4⟩
        · rw [unmark_no h3 (.inr (.inl e1))]
          have f1 : (xs[1] == 187) = false := by simpa using e1
          have HU : Hid (∀ x ∈ xs, 0 ≤ x ∧ x ≤ 255) := hb
          clear e0 e1 hum hb
          go_enter Tryz.func156, Tryz.ntmps156
          go_wp2_with fail
          go_at_call 35
          refine (l1Read_any h0 HU.out (by omega)).mono ?_
          rintro e w4 ⟨v4, rfl, o4, b4⟩
          go_wp2
          go_ret
          exact ⟨_, rfl, o4, b4⟩
      · rw [unmark_no h3 (.inl e0)]
        have f0 : (xs[0] == 239) = false := by simpa using e0
        have HU : Hid (∀ x ∈ xs, 0 ≤ x ∧ x ≤ 255) := hb
        clear e0 hum hb
        go_enter Tryz.func156, Tryz.ntmps156
        go_wp2_with fail
        go_at_call 35
        refine (l1Read_any h0 HU.out (by omega)).mono ?_
        rintro e w4 ⟨v4, rfl, o4, b4⟩
        go_wp2
        go_ret
        exact ⟨_, rfl, o4, b4⟩
    · rw [unmark_short h3]
      have HU : Hid (∀ x ∈ xs, 0 ≤ x ∧ x ≤ 255) := hb
      clear hum hb ha
      go_enter Tryz.func156, Tryz.ntmps156
      go_wp2_with fail
      go_at_call 35
      refine (l1Read_any h0 HU.out (by omega)).mono ?_
      rintro e w4 ⟨v4, rfl, o4, b4⟩
      go_wp2
      go_ret
      exact ⟨_, rfl, o4, b4⟩
  · rw [if_neg hlen]
    go_enter Tryz.func156, Tryz.ntmps156
    go_wp2
    go_ret
    exact ⟨_, rfl, own_empty _ _ _, (Below.refl _ _).alloc (Nat.le_refl _) _⟩
end Go.Proofs.YtggfifchkecnjaaGreatDoor
