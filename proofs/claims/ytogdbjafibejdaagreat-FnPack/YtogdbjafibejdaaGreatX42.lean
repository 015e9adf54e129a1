/- The specification's l7Name, by the plain reader. No condition. -/
import Derived.Test.YtogdbjafibejdaaGreatX41
import Derived.Test.YtogdbjafibejdaaGreatX13
import Derived.Test.YtogdbjafibejdaaGreatX40
import Derived.Test.YtogdbjafibejdaaGreatX38
import Derived.Test.YtogdbjafibejdaaGreatX16
namespace Go.Proofs.YtogdbjafibejdaaGreat
open Go.RowKit
set_option maxRecDepth 100000
set_option linter.unusedVariables false

def pVal : Option (Nat × Nat) → Value
  | some (k, j) => .tuple #[.int .i64 (k : Int), .int .i64 (j : Int), .bool true]
  | none => .tuple #[.int .i64 0, .int .i64 0, .bool false]
def xVal : Option (ByteArray × Nat) → Value
  | some (s, j) => .tuple #[.string s, .int .i64 (j : Int), .bool true]
  | none => .tuple #[.string ⟨#[]⟩, .int .i64 0, .bool false]
theorem numVal_p {xs : List Int} (hb : ∀ x ∈ xs, 0 ≤ x ∧ x ≤ 255) (i : Nat) : numVal (i : Int) (rdI xs i) = pVal (rdP xs i) := by
  rcases hr : rdI xs i with _ | ⟨y, n⟩
  · have : rdP xs i = none := by unfold rdP; rw [hr]
    rw [this]
    rfl
  · obtain ⟨k, p, e1, e2, _, _, e⟩ := rdI_nats hr hb
    have : rdP xs i = some (k, p) := by
      unfold rdP
      rw [hr]
      simp only [Option.some.injEq, Prod.mk.injEq]
      omega
    rw [this, ← hr, e]
    rfl
theorem textVal_x {xs : List Int} (hb : ∀ x ∈ xs, 0 ≤ x ∧ x ≤ 255) (i : Nat) : textVal (rdT xs i) = xVal (rdX xs i) := by
  rcases hr : rdT xs i with _ | ⟨t, j⟩
  · have : rdX xs i = none := by unfold rdX; rw [hr]
    rw [this]
    rfl
  · have h := rdT_some2 hr hb
    have e : rdX xs i = some (strOf t, j.toNat) := by unfold rdX; rw [hr]
    have ej : (j.toNat : Int) = j := by omega
    rw [e]
    simp only [textVal, xVal, ej]
theorem sgetNum_p {v : Value} {xs : List Int} {i : Nat} {w : World} (h : Sl .u8 w v xs) (hb : ∀ x ∈ xs, 0 ≤ x ∧ x ≤ 255) (hn : xs.length ≤ 1099511627776) :
    Calls Tryz.prog 95 #[v, .int .i64 (i : Int)] w fun e w' => e = .returned (pVal (rdP xs i)) ∧ w' = w := by
  rw [← numVal_p hb]
  exact sgetNum_any h hb hn
theorem sgetText_x {v : Value} {xs : List Int} {i : Nat} {w : World} (h : Sl .u8 w v xs) (hb : ∀ x ∈ xs, 0 ≤ x ∧ x ≤ 255) (hn : xs.length ≤ 1099511627776) :
    Calls Tryz.prog 96 #[v, .int .i64 (i : Int)] w fun e w' => e = .returned (xVal (rdX xs i)) ∧ w' = w := by
  rw [← textVal_x hb]
  exact sgetText_any h hb hn

set_option maxRecDepth 100000 in
theorem sl7Name_any {v nv : Value} {xs : List Int} {nm : List ByteArray} {i : Nat} {w : World} (h : Sl .u8 w v xs) (hb : ∀ x ∈ xs, 0 ≤ x ∧ x ≤ 255) (hn : xs.length ≤ 1099511627776) (hs : Sv 1 w nv (nm.map Value.string)) (hnl : nm.length ≤ 1000000000000) :
    Calls Tryz.prog 173 #[v, .int .i64 (i : Int), nv] w fun e w' => e = .returned (xVal (rdM xs nm i)) ∧ w' = w := by
  have C := (show Hid _ from sgetNum_p (i := i) h hb hn)
  obtain ⟨a, ca, rfl, _, _, _, _⟩ := h
  obtain ⟨sa, sn, sc, rfl⟩ : ∃ a n c, nv = .slice a n c := by obtain ⟨a, n, c, e, _⟩ := hs; exact ⟨a, n, c, e⟩
  obtain ⟨rfl, SC⟩ := str_cell hs
  have HSC := (show Hid _ from SC)
  clear hs SC
  rcases hr : rdP xs i with _ | ⟨k, j⟩
  · have HM := (show Hid (rdM xs nm i = none) from (by unfold rdM; rw [hr] : rdM xs nm i = none))
    rw [hr] at C
    clear hr
    go_enter Tryz.func173, Tryz.ntmps173
    go_wp2_with fail
    go_at_call 95
    refine Calls.mono C.out ?_
    rintro e w2 ⟨rfl, ew⟩
    replace ew := ew.symm
    subst ew
    simp only [pVal]
    go_wp2
    go_ret3
    rw [HM.out]
    exact ⟨rfl, rfl⟩
  · have hk := rdP_some hr hb
    by_cases hlt : k < nm.length
    · have HM := (show Hid (rdM xs nm i = some (nm[k], j)) from (by unfold rdM; rw [hr]; simp only [if_pos hlt]; simp [List.getD_eq_getElem?_getD, hlt] : rdM xs nm i = some (nm[k], j)))
      obtain ⟨bb, oo, rfl, lbb, cs⟩ := HSC.out k hlt
      rw [hr] at C
      have hki : ¬ (nm.length : Int) ≤ (k : Int) := by omega
      have hki2 : (k : Int) < (nm.length : Int) := by omega
      clear hr
      go_enter Tryz.func173, Tryz.ntmps173
      go_wp2_with fail
      go_at_call 95
      refine Calls.mono C.out ?_
      rintro e w2 ⟨rfl, ew⟩
      replace ew := ew.symm
      subst ew
      simp only [pVal]
      go_wp2
      go_ret3
      rw [HM.out]
      exact ⟨rfl, rfl⟩
    · have HM := (show Hid (rdM xs nm i = none) from (by unfold rdM; rw [hr]; simp only [if_neg hlt] : rdM xs nm i = none))
      rw [hr] at C
      have hki : (nm.length : Int) ≤ (k : Int) := by omega
      clear hr
      go_enter Tryz.func173, Tryz.ntmps173
      go_wp2_with fail
      go_at_call 95
      refine Calls.mono C.out ?_
      rintro e w2 ⟨rfl, ew⟩
      replace ew := ew.symm
      subst ew
      simp only [pVal]
      go_wp2
      go_ret3
      rw [HM.out]
      exact ⟨rfl, rfl⟩
end Go.Proofs.YtogdbjafibejdaaGreat

/- The readers, plainly: places go on, lists stay short. No condition. -/
namespace Go.Proofs.YtogdbjafibejdaaGreat
open Go.RowKit
set_option maxRecDepth 100000
set_option linter.unusedVariables false

theorem rdB_le {xs : List Int} {nm : List ByteArray} {strict : Bool} {room : Nat → Bool} {M : Nat} (hb : ∀ x ∈ xs, 0 ≤ x ∧ x ≤ 255) (hn : FitS xs.length nm) (hM : ∀ n, n ≤ M → room n = true → n + 1 ≤ M) : ∀ (f k : Nat) (me : Int) (ns : List PNode) (i : Nat) (ms : List PNode) (j : Nat),
    rdB xs nm strict room f k me ns i = some (ms, j) → i ≤ xs.length → ns.length ≤ M → i ≤ j ∧ j ≤ xs.length ∧ ns.length ≤ ms.length ∧ ms.length ≤ M
  | f, 0, me, ns, i, ms, j, h, hi, hl => by
    rw [rdB_zero] at h
    simp only [Option.some.injEq, Prod.mk.injEq] at h
    obtain ⟨rfl, rfl⟩ := h
    exact ⟨Nat.le_refl _, hi, Nat.le_refl _, hl⟩
  | 0, k + 1, me, ns, i, ms, j, h, _, _ => by cases h
  | f + 1, k + 1, me, ns, i, ms, j, h, hi, hl => by
    rw [rdB] at h
    split at h
    · rename_i hr
      rcases h1 : rdOne xs nm strict i with _ | ⟨n, kd, p⟩
      · rw [h1] at h; cases h
      · rw [h1] at h
        simp only at h
        have e1 := rdOne_some hb hn h1
        rcases h2 : rdB xs nm strict room f kd ns.length (kidAdd ns me ++ [linkN n me []]) p with _ | ⟨ns', i'⟩
        · rw [h2] at h; cases h
        · rw [h2] at h
          simp only at h
          have h3 := hM _ hl hr
          have e2 := rdB_le hb hn hM f kd _ _ _ _ _ h2 e1.2.1 (by rw [List.length_append, kidAdd_len]; exact h3)
          have e3 := rdB_le hb hn hM f k _ _ _ _ _ h e2.2.1 e2.2.2.2
          rw [List.length_append, kidAdd_len, List.length_singleton] at e2
          omega
    · cases h
theorem rdN_le {xs : List Int} {nm : List ByteArray} {strict : Bool} {room : Nat → Bool} {M : Nat} (hb : ∀ x ∈ xs, 0 ≤ x ∧ x ≤ 255) (hn : FitS xs.length nm) (hM : ∀ n, n ≤ M → room n = true → n + 1 ≤ M) {f : Nat} {me : Int} {ns : List PNode} {i : Nat} {ms : List PNode} {j : Nat}
    (h : rdN xs nm strict room f me ns i = some (ms, j)) (hl : ns.length ≤ M) : i + 2 ≤ j ∧ j ≤ xs.length ∧ ns.length + 1 ≤ ms.length ∧ ms.length ≤ M := by
  unfold rdN at h
  split at h
  · rename_i hr
    rcases h1 : rdOne xs nm strict i with _ | ⟨n, kd, p⟩
    · rw [h1] at h; cases h
    · rw [h1] at h
      simp only at h
      have e1 := rdOne_some hb hn h1
      have h3 := hM _ hl hr
      have e2 := rdB_le hb hn hM f kd _ _ _ _ _ h e1.2.1 (by rw [List.length_append, List.length_singleton]; exact h3)
      rw [List.length_append, List.length_singleton] at e2
      omega
  · cases h
theorem modify_congr {α : Type} {L : List α} {k : Nat} {f g : α → α} (h : ∀ a, L[k]? = some a → f a = g a) : L.modify k f = L.modify k g := by
  apply List.ext_getElem?
  intro i
  rw [List.getElem?_modify, List.getElem?_modify]
  by_cases e : k = i
  · subst e
    cases hl : L[k]? with
    | none => rfl
    | some a => simp [h a hl]
  · simp [e]
theorem kidAdd_is {L : List PNode} {k : Nat} {ks : List Int} (hk : ∀ a, L[k]? = some a → a.kids = ks) {m : Nat} (hm : m = L.length) : L.modify k (fun n => setKids n (ks ++ [(m : Int)])) = kidAdd L (k : Int) := by
  subst hm
  unfold kidAdd
  rw [if_neg (by omega), Int.toNat_natCast]
  exact modify_congr (fun a ha => by rw [hk a ha])
theorem rdB_step {xs : List Int} {nm : List ByteArray} {strict : Bool} {room : Nat → Bool} {f k : Nat} {me : Int} {ns : List PNode} {i : Nat} {R : Option (List PNode × Nat)} (h : rdB xs nm strict room (f + 1) (k + 1) me ns i = R) :
    (∀ ms j, rdN xs nm strict room f me (kidAdd ns me) i = some (ms, j) → rdB xs nm strict room f k me ms j = R) ∧ (rdN xs nm strict room f me (kidAdd ns me) i = none → R = none) := by
  rw [rdB_succ] at h
  constructor
  · intro ms j e
    rw [e] at h
    exact h
  · intro e
    rw [e] at h
    exact h.symm
theorem rdN_is {xs : List Int} {nm : List ByteArray} {strict : Bool} {room : Nat → Bool} {f : Nat} {me : Int} {ns : List PNode} {i kd j : Nat} {n : PNode} (hr : room ns.length = true) (h : rdOne xs nm strict i = some (n, kd, j)) :
    rdN xs nm strict room f me ns i = rdB xs nm strict room f kd ns.length (ns ++ [linkN n me []]) j := by
  unfold rdN; rw [if_pos hr, h]
theorem rdN_no1 {xs : List Int} {nm : List ByteArray} {strict : Bool} {room : Nat → Bool} {f : Nat} {me : Int} {ns : List PNode} {i : Nat} (h : rdOne xs nm strict i = none) : rdN xs nm strict room f me ns i = none := by
  unfold rdN; rw [h]; simp
theorem rdN_no2 {xs : List Int} {nm : List ByteArray} {strict : Bool} {room : Nat → Bool} {f : Nat} {me : Int} {ns : List PNode} {i : Nat} (h : ¬ room ns.length = true) : rdN xs nm strict room f me ns i = none := by
  unfold rdN; rw [if_neg h]
theorem kidAdd_read {m i : Nat} {ns : List PNode} (h : ∀ n ∈ ns, ReadN m n ∧ n.kids.length ≤ i) (me : Int) : ∀ n ∈ kidAdd ns me, ReadN m n ∧ n.kids.length ≤ i + 1 := fun n hn => by
  unfold kidAdd at hn
  split at hn
  · have := h n hn
    exact ⟨this.1, by omega⟩
  · obtain ⟨q, hq, e⟩ := List.getElem_of_mem hn
    rw [List.getElem_modify] at e
    rw [List.length_modify] at hq
    have h1 := h _ (List.getElem_mem hq)
    split at e
    · subst e
      refine ⟨⟨h1.1.nm, h1.1.tx, h1.1.rs, h1.1.each⟩, ?_⟩
      simp only [setKids, List.length_append, List.length_singleton]
      omega
    · subst e
      exact ⟨h1.1, by omega⟩
theorem ReadL.of_snoc {xs : List Int} {nm : List ByteArray} {strict : Bool} {ns : List PNode} {i kd j : Nat} {n : PNode} (hb : ∀ x ∈ xs, 0 ≤ x ∧ x ≤ 255) (hn : FitS xs.length nm) (h : rdOne xs nm strict i = some (n, kd, j)) (hr : ∀ n ∈ ns, ReadN xs.length n ∧ n.kids.length ≤ i + 1) (hf : ns.length ≤ i) (me : Int) : ReadL xs (ns ++ [linkN n me []]) j := by
  have e1 := rdOne_some hb hn h
  exact ReadL.snoc (fun n hn => ⟨(hr n hn).1, by have := (hr n hn).2; omega⟩) (by omega) e1.2.1 e1.2.2.1 me
end Go.Proofs.YtogdbjafibejdaaGreat

/- How long the form of a right tree is; which trees are packed; the reader of a whole tree, plainly. No condition. -/
namespace Go.Proofs.YtogdbjafibejdaaGreat
open Go.RowKit
set_option maxRecDepth 100000
set_option linter.unusedVariables false

def goodT (ns : List PNode) : Prop := STreeOkP ns ∧ tidyN ns = ns ∧ (packL ns).length ≤ 20000
theorem putS_of {l : List ByteArray} {s x : ByteArray} (h : x ∈ putS l s) : x ∈ l ∨ x = s := by
  unfold putS at h
  split at h
  · rcases List.mem_append.mp h with h | h
    · exact .inl h
    · exact .inr (List.mem_singleton.mp h)
  · exact .inl h
theorem namesA_of : ∀ (rs : List (ByteArray × ByteArray)) (out : List ByteArray) (x : ByteArray), x ∈ namesA out rs → x ∈ out ∨ ∃ r ∈ rs, r.1 = x
  | [], out, x, h => .inl h
  | r :: rs, out, x, h => by
    rcases namesA_of rs (putS out r.1) x h with h | ⟨q, hq, e⟩
    · rcases putS_of h with h | h
      · exact .inl h
      · exact .inr ⟨r, by simp, h.symm⟩
    · exact .inr ⟨q, by simp [hq], e⟩
theorem namesN_of {n : PNode} {out : List ByteArray} {x : ByteArray} (h : x ∈ namesN out n) : x ∈ out ∨ x = n.name ∨ ∃ r ∈ n.attrs, r.1 = x := by
  unfold namesN at h
  rcases namesA_of _ _ _ h with h | h
  · split at h
    · rcases putS_of h with h | h
      · exact .inl h
      · exact .inr (.inl h)
    · exact .inl h
  · exact .inr (.inr h)
theorem namesF_small : ∀ (ns : List PNode) (out : List ByteArray), (∀ n ∈ ns, SmallN n) → (∀ s ∈ out, s.size ≤ 3000) → (∀ s ∈ ns.foldl namesN out, s.size ≤ 3000) ∧ (ns.foldl namesN out).length ≤ out.length + ns.length * 21
  | [], out, _, ho => ⟨ho, by simp⟩
  | n :: ns, out, hs, ho => by
    have h1 := namesF_small ns (namesN out n) (fun m hm => hs m (by simp [hm])) (fun s h => by
      rcases namesN_of h with h | h | ⟨r, hr, e⟩
      · exact ho s h
      · rw [h]; exact (hs n (by simp)).nm
      · have h2 := (hs n (by simp)).each r hr
        rw [← e]
        unfold attrOk at h2
        simp only [Bool.and_eq_true, inB, decide_eq_true_eq] at h2
        omega)
    have h2 := namesN_le out n
    have h3 := (hs n (by simp)).rs
    refine ⟨h1.1, ?_⟩
    have h4 := h1.2
    rw [List.foldl_cons, List.length_cons]
    omega
theorem flatLen_le {α : Type} {l : List α} {g : α → List Int} {m : Nat} (h : ∀ x ∈ l, (g x).length ≤ m) : (l.flatMap g).length ≤ l.length * m := by
  induction l with
  | nil => simp
  | cons a l ih =>
    rw [List.flatMap_cons, List.length_append, List.length_cons, Nat.succ_mul]
    have h1 := h a (by simp)
    have h2 := ih (fun x hx => h x (by simp [hx]))
    omega
theorem attrF_small {nm : List ByteArray} {p : ByteArray × ByteArray} (h : attrOk p = true) : (attrF nm p).length ≤ 3018 := by
  have h1 := form_len (fndS nm p.1)
  have h2 := textForm_len p.2
  unfold attrOk at h
  simp only [Bool.and_eq_true, inB, decide_eq_true_eq] at h
  unfold attrF
  rw [List.length_append]
  omega
theorem attrsF_small {nm : List ByteArray} {n : PNode} (h : SmallN n) (j : Nat) : ((n.attrs.take j).flatMap (attrF nm)).length ≤ 60360 := by
  have h1 := flatLen_le (l := n.attrs.take j) (g := attrF nm) (m := 3018) (fun p hp => attrF_small (h.each p (List.mem_of_mem_take hp)))
  have h2 := h.rs
  have h3 : (n.attrs.take j).length ≤ 20 := by rw [List.length_take]; omega
  have h4 := Nat.mul_le_mul_right 3018 h3
  omega
theorem nodeF_small {nm : List ByteArray} {n : PNode} (h : SmallN n) : (nodeF nm n).length ≤ 70000 := by
  have h1 := form_len n.kind
  have h2 := form_len n.kids.length
  have h3 := form_len (fndS nm n.name)
  have h4 := form_len n.attrs.length
  have h5 := attrsF_small (nm := nm) h n.attrs.length
  rw [List.take_length] at h5
  have h6 := textForm_len n.text
  have h7 := h.tx
  unfold nodeF restF
  rw [List.length_append, List.length_append]
  repeat' split
  all_goals first | (simp only [List.length_append, List.length_nil]; omega) | omega
def headL (ns : List PNode) : List Int := form (namesL ns).length ++ (namesL ns).flatMap textForm ++ form ns.length
theorem packL_eq (ns : List PNode) : packL ns = headL ns ++ ns.flatMap (nodeF (namesL ns)) := by
  simp [packL, headL]
theorem names_small {ns : List PNode} (h : TreeOkP ns) : (∀ s ∈ namesL ns, s.size ≤ 3000) ∧ (namesL ns).length ≤ 10500 := by
  have h1 := namesF_small ns [] (fun n hn => by obtain ⟨k, hk, e⟩ := List.getElem_of_mem hn; rw [← e]; exact small_all h k hk) (fun s hs => by cases hs)
  have h2 := h.most
  rw [List.length_nil] at h1
  refine ⟨h1.1, ?_⟩
  have := h1.2
  unfold namesL
  omega
theorem texts_small {ns : List PNode} (h : TreeOkP ns) (j : Nat) : (((namesL ns).take j).flatMap textForm).length ≤ 31594500 := by
  obtain ⟨h1, h2⟩ := names_small h
  have h3 := flatLen_le (l := (namesL ns).take j) (g := textForm) (m := 3009) (fun s hs => by have := h1 s (List.mem_of_mem_take hs); have := textForm_len s; omega)
  have h4 : ((namesL ns).take j).length ≤ 10500 := by rw [List.length_take]; omega
  have h5 := Nat.mul_le_mul_right 3009 h4
  omega
theorem headL_small {ns : List PNode} (h : TreeOkP ns) : (headL ns).length ≤ 31594600 := by
  have h1 := form_len (namesL ns).length
  have h2 := form_len ns.length
  have h3 := texts_small h (namesL ns).length
  rw [List.take_length] at h3
  unfold headL
  rw [List.length_append, List.length_append]
  omega
theorem nodesF_small {ns : List PNode} {nm : List ByteArray} (h : TreeOkP ns) (k : Nat) : ((ns.take k).flatMap (nodeF nm)).length ≤ 35000000 := by
  have h1 := flatLen_le (l := ns.take k) (g := nodeF nm) (m := 70000) (fun n hn => by
    obtain ⟨k, hk, e⟩ := List.getElem_of_mem (List.mem_of_mem_take hn); rw [← e]; exact nodeF_small (small_all h k hk))
  have h2 : (ns.take k).length ≤ 500 := by rw [List.length_take]; have := h.most; omega
  have h3 := Nat.mul_le_mul_right 70000 h2
  omega
theorem packL_small {ns : List PNode} (h : TreeOkP ns) : (packL ns).length ≤ 66594600 := by
  have h1 := headL_small h
  have h2 := nodesF_small (nm := namesL ns) h ns.length
  rw [List.take_length] at h2
  rw [packL_eq, List.length_append]
  omega

theorem empB_is {s : ByteArray} (h : empB s = true) : s = ⟨#[]⟩ := by
  have h1 := (empB_iff s).mp h
  obtain ⟨d⟩ := s
  have h2 : d.size = 0 := h1
  rw [Array.size_eq_zero_iff.mp h2]
theorem tells_of {ns : List PNode} {k : Nat} (h : TreeOkP ns) (hk : k < ns.length) : Tells (namesL ns) ns[k] := by
  have hg := h.good k hk
  have hs := small_all h k hk
  have hm : ns[k] ∈ ns := List.getElem_mem hk
  obtain ⟨n, hn⟩ : ∃ n, n = ns[k] := ⟨_, rfl⟩
  have hkl := kids_few h _ hm
  have hmost := h.most
  rw [← hn] at hg hs hm hkl ⊢
  have e0 : ∀ s, empB s = true → s = ⟨#[]⟩ := fun s e => empB_is e
  have hkind : n.kind = 1 ∨ n.kind = 2 ∨ n.kind = 3 ∨ n.kind = 4 ∨ n.kind = 5 := by
    unfold goodB nodeB at hg
    repeat' split at hg
    all_goals simp_all
  unfold goodB at hg
  rw [Bool.and_eq_true] at hg
  have hg2 := hg.2
  unfold nodeB at hg2
  refine ⟨hkind, fun h2 => namesL_name hm (by unfold hasName; rcases h2 with h2 | h2 <;> simp [h2]), ?_, fun h3 p hp => ⟨namesL_attr hm hp, ?_⟩, by have := hs.rs; omega, ?_, by have := hs.tx; omega, ?_, by omega⟩
  · intro hno
    rcases hkind with e | e | e | e | e <;> simp only [e, reduceIte, Int.reduceEq, Bool.and_eq_true] at hg2
    · exact e0 _ hg2.1.1
    · exact absurd (.inl e) hno
    · exact absurd (.inr e) hno
    · exact e0 _ hg2.1.1.2
    · exact e0 _ hg2.1.1.2
  · have := hs.each p hp
    unfold attrOk at this
    simp only [Bool.and_eq_true, decide_eq_true_eq] at this
    omega
  · intro hno
    rcases hkind with e | e | e | e | e <;> simp only [e, reduceIte, Int.reduceEq, Bool.and_eq_true, decide_eq_true_eq] at hg2
    · exact List.length_eq_zero_iff.mp hg2.1.2
    · exact List.length_eq_zero_iff.mp hg2.1.1.2
    · exact absurd e hno
    · exact List.length_eq_zero_iff.mp hg2.1.2
    · exact List.length_eq_zero_iff.mp hg2.1.2
  · intro hno
    rcases hkind with e | e | e | e | e <;> simp only [e, reduceIte, Int.reduceEq, Bool.and_eq_true] at hg2
    · exact e0 _ hg2.2
    · exact e0 _ hg2.1.2
    · exact e0 _ hg2.2
    · exact absurd (.inl e) hno
    · exact absurd (.inr e) hno

def rdTop (xs : List Int) (strict : Bool) (room : Nat → Nat → Bool) : Option (List PNode) :=
  match rdP xs 0 with
  | none => none
  | some (m, i) => match rdNs xs (xs.length + 1) m i [] with
    | none => none
    | some (nm, j) => match rdP xs j with
      | none => none
      | some (c, k) => match rdN xs nm strict (room c) (xs.length + 1) (-1) [] k with
        | none => none
        | some (ns, _) => some ns
theorem rdTop_form {ns : List PNode} {strict : Bool} {room : Nat → Nat → Bool} (h : STreeOkP ns) (ht : tidyN ns = ns) (hroom : ∀ c m, m < c → c ≤ 500 → room c m = true) : rdTop (packL ns) strict room = some ns := by
  obtain ⟨s1, s2⟩ := names_small h.1
  have hmost := h.1.most
  have hone := h.1.one
  obtain ⟨xs, hxs⟩ : ∃ xs, xs = packL ns := ⟨_, rfl⟩
  have hat : AtL xs (form (namesL ns).length ++ ((namesL ns).flatMap textForm ++ (form ns.length ++ ns.flatMap (nodeF (namesL ns))))) 0 := ⟨[], [], by rw [hxs]; simp [packL], rfl⟩
  rw [← hxs]
  unfold rdTop
  rw [rdP_form hat.left (by omega)]
  simp only
  rw [rdNs_form _ _ _ _ (by omega) hat.right.left (fun s hs => by have := s1 s hs; omega)]
  simp only
  rw [rdP_form hat.right.right.left (by omega)]
  simp only
  have htd := tdL_tidy h
  rw [ht] at htd
  have hl := rdN_form (xs := xs) (nm := namesL ns) (strict := strict) (room := room ns.length) (total := ns.length) (by omega) (fun m hm => hroom _ _ hm hmost) (fun k hk => tells_of h.1 hk) ns.length 0 (-1) [] _ (xs.length + 1) (tree_deep h.1 (by omega))
    (by rw [List.length_nil, htd]; omega) (by rw [List.length_nil, htd]; exact hat.right.right.right) (by omega)
  rw [List.length_nil, htd] at hl
  rw [List.nil_append, hl]
  simp
end Go.Proofs.YtogdbjafibejdaaGreat

/- The program's byteReader where it lies in a treeReader (written by mk/irdt1.py). No condition. -/
namespace Go.Proofs.YtogdbjafibejdaaGreat
open Go.RowKit
set_option maxRecDepth 100000
set_option linter.unusedVariables false

def RdrT (w0 : World) (g : Nat) (v : Value) (xs : List Int) (tl : List Value) (i : Int) (w : World) : Prop :=
  w0.heap.size ≤ g ∧ Sl .u8 w0 v xs ∧ Below w0.heap.size w0 w ∧ xs.length ≤ 1099511627776 ∧ w.heap[g]? = some (.cells (v :: .int .i64 i :: tl).toArray 120 (0, 0))
theorem RdrT.lt {w0 : World} {g : Nat} {v : Value} {xs : List Int} {tl : List Value} {i : Int} {w : World} (h : RdrT w0 g v xs tl i w) : g < w.heap.size := lt_of_block h.2.2.2.2
theorem RdrT.below {w0 : World} {g : Nat} {v : Value} {xs : List Int} {tl : List Value} {i : Int} {w w' : World} (h : RdrT w0 g v xs tl i w) (hb : Below w.heap.size w w') : RdrT w0 g v xs tl i w' := by
  have hlt := h.lt
  obtain ⟨h1, h2, h3, h4, h5⟩ := h
  exact ⟨h1, h2, h3.trans (hb.mono h3.size), h4, (hb.block g hlt).trans h5⟩
theorem RdrT.kept {w0 : World} {g : Nat} {v : Value} {xs : List Int} {tl : List Value} {i : Int} {w w' : World} {row : Option Nat} (h : RdrT w0 g v xs tl i w) (hg : w.grownBy w' row) (hne : row ≠ some g) (hr : ∀ k, row = some k → w0.heap.size ≤ k) : RdrT w0 g v xs tl i w' := by
  have hlt := h.lt
  obtain ⟨h1, h2, h3, h4, h5⟩ := h
  exact ⟨h1, h2, h3.grown hg h3.size hr, h4, by rw [hg.block g hlt (fun e => hne e.symm)]; exact h5⟩
theorem RdrT.sl {w0 : World} {g : Nat} {v : Value} {xs : List Int} {tl : List Value} {i : Int} {w : World} (h : RdrT w0 g v xs tl i w) : Sl .u8 w v xs := h.2.1.below h.2.2.1
theorem RdrT.drewN {w0 : World} {g : Nat} {v : Value} {xs : List Int} {tl : List Value} {i : Int} {w : World} (h : RdrT w0 g v xs tl i w) (n : Nat) : RdrT w0 g v xs tl i (w.drewN n) := h.below (below_drewN n)
theorem RdrT.set {w0 : World} {g : Nat} {v : Value} {xs : List Int} {tl : List Value} {i : Int} {w : World} (h : RdrT w0 g v xs tl i w) (j : Int) : RdrT w0 g v xs tl j (w.setCell ⟨g, 1, none⟩ (.int .i64 j)) := by
  obtain ⟨h1, h2, h3, h4, h5⟩ := h
  exact ⟨h1, h2, h3.setCell h1 _, h4, by
    have := three_setCell (k := 1) (u := .int .i64 j) h5
    simpa using this⟩
theorem RdrT.cells {w0 : World} {g : Nat} {v : Value} {xs : List Int} {tl : List Value} {i : Int} {w : World} (h : RdrT w0 g v xs tl i w) :
    w.cell? ⟨g, 0, none⟩ = some v ∧ w.cell? ⟨g, 1, none⟩ = some (.int .i64 i) ∧ w.frozen? ⟨g, 1, none⟩ = false := by
  have hh := h.2.2.2.2
  refine ⟨?_, ?_, ?_⟩
  · simp only [World.cell?, hh]; rfl
  · simp only [World.cell?, hh]; rfl
  · simp only [World.frozen?, hh]; rfl

theorem oneByteT_yes {w0 : World} {g : Nat} {v : Value} {xs : List Int} {tl : List Value} {k : Nat} {w : World} (h : RdrT w0 g v xs tl k w) (hb : ∀ x ∈ xs, 0 ≤ x ∧ x ≤ 255) (hk : k < xs.length) :
    Calls Tryz.prog 169 #[.pointer (some ⟨g, 0, none⟩)] w fun e w' => e = .returned (.int .i64 (xs.getD k 0)) ∧ RdrT w0 g v xs tl (k + 1 : Nat) w' ∧ w.grownBy w' (some g) := by
  obtain ⟨c0, c1, f1⟩ := h.cells
  have h4 := h.2.2.2.1
  have h0 := h
  obtain ⟨a, ca, rfl, _, _, _, ha⟩ := h.sl
  obtain ⟨b1, o1, rfl, cx⟩ := ha k hk
  clear ha h
  go_enter Tryz.func169, Tryz.ntmps169
  have hk0 : (0 : Int) ≤ k := by omega
  have hk1 : (k : Int) < xs.length := by omega
  go_wp2
  go_region_held (fun w' => w'.cell? ⟨g, 0, none⟩ = some (.slice (some ⟨b1, o1, none⟩) xs.length ca) ∧ w'.cell? ⟨g, 1, none⟩ = some (.int .i64 k)) (go_keep)
    ((go_at_call 135; refine (need_yes _).mono ?_; rintro e w4 ⟨rfl, rfl⟩))
  go_wp2
  go_region_held (fun w' => w'.cell? ⟨g, 0, none⟩ = some (.slice (some ⟨b1, o1, none⟩) xs.length ca) ∧ w'.cell? ⟨g, 1, none⟩ = some (.int .i64 k) ∧ w'.cell? ⟨b1, o1 + k, none⟩ = some (.int .u8 (xs.getD k 0))) (go_keep) (fail)
  have hwx : IntKind.i64.wrap xs[k] = xs.getD k 0 := by
    have := hb _ (List.getElem_mem hk)
    have e : xs.getD k 0 = xs[k] := by simp [List.getD_eq_getElem?_getD, hk]
    rw [e]
    exact wrap_b7 this.1 this.2
  have r2 := (h0.drewN 2).set (k + 1 : Nat)
  have g2 := grown_trans (grown_drewN w 2 (some g)) (grown_setCell (w.drewN 2) g 1 (.int .i64 (k + 1 : Nat)))
  have R2 := (show Hid (_ ∧ _) from ⟨r2, g2⟩)
  clear r2 g2 hb
  go_wp2
  go_ret
  exact ⟨ret_int hwx, R2.out⟩

set_option maxHeartbeats 400000 in
theorem oneByteT_no {w0 : World} {g : Nat} {v : Value} {xs : List Int} {tl : List Value} {i : Int} {w : World} (h : RdrT w0 g v xs tl i w) (hk : i < 0 ∨ (xs.length : Int) ≤ i) :
    Calls Tryz.prog 169 #[.pointer (some ⟨g, 0, none⟩)] w fun e w' => Bad e ∧ RdrT w0 g v xs tl i w' ∧ w.grownBy w' (some g) := by
  obtain ⟨c0, c1, f1⟩ := h.cells
  have h0 := h
  obtain ⟨a, ca, rfl, _, _, _, ha⟩ := h.sl
  have R2 := (show Hid (_ ∧ _) from ⟨h0.drewN 1, grown_drewN w 1 (some g)⟩)
  clear ha h h0
  rcases hk with hk | hk
  · have hn : ¬ (0 ≤ i) := by omega
    have hn' : decide (0 ≤ i) = false := by simp; omega
    go_enter Tryz.func169, Tryz.ntmps169
    go_wp2
    refine region_tail 17 (by kernel_rfl) (by kernel_rfl) ?_
    intro w1 K1 hW1 hK1
    have ne := One.any w1
    have d1 : ∀ n : One w1, n.w.cell? ⟨g, 1, none⟩ = some (.int .i64 i) := fun n => by rw [n.eq, hW1.out]; exact c1
    simp only [List.take_succ_cons, List.take_zero, List.drop_succ_cons, List.drop_zero] at hK1 ⊢
    repeat (go_big_quiet_step (fail))
    refine wpQuiet_nil ?_
    refine hK1.out _ ?_
    clear hK1
    go_wp2_with fail
    go_at_call 135
    refine (need_no _).mono ?_
    rintro e w4 ⟨⟨t, s, rfl⟩, rfl⟩
    go_wp2
    rw [hW1.out]
    exact ⟨rfl, ⟨_, _, rfl⟩, R2.out⟩
  · by_cases h0 : 0 ≤ i
    · have hn : ¬ (i < xs.length) := by omega
      have hn' : decide (i < (xs.length : Int)) = false := by simp; omega
      go_enter Tryz.func169, Tryz.ntmps169
      go_wp2
      refine region_tail 17 (by kernel_rfl) (by kernel_rfl) ?_
      intro w1 K1 hW1 hK1
      have ne := One.any w1
      have d1 : ∀ n : One w1, n.w.cell? ⟨g, 1, none⟩ = some (.int .i64 i) := fun n => by rw [n.eq, hW1.out]; exact c1
      have d0 : ∀ n : One w1, n.w.cell? ⟨g, 0, none⟩ = some (.slice a xs.length ca) := fun n => by rw [n.eq, hW1.out]; exact c0
      simp only [List.take_succ_cons, List.take_zero, List.drop_succ_cons, List.drop_zero] at hK1 ⊢
      repeat (go_big_quiet_step (fail))
      refine wpQuiet_nil ?_
      refine hK1.out _ ?_
      clear hK1
      go_wp2_with fail
      go_at_call 135
      refine (need_no _).mono ?_
      rintro e w4 ⟨⟨t, s, rfl⟩, rfl⟩
      go_wp2
      rw [hW1.out]
      exact ⟨rfl, ⟨_, _, rfl⟩, R2.out⟩
    · omega
theorem numT_at {w0 : World} {g : Nat} {v : Value} {xs : List Int} {tl : List Value} {k0 : Nat} {w : World} (h : RdrT w0 g v xs tl k0 w) (hb : ∀ x ∈ xs, 0 ≤ x ∧ x ≤ 255) :
    Calls Tryz.prog 136 #[.pointer (some ⟨g, 0, none⟩)] w fun e w' => ((∃ y n, rdA 9 0 0 (xs.drop k0) = some (y, n) ∧ e = .returned (.int .i64 y) ∧ RdrT w0 g v xs tl (k0 + n : Nat) w') ∨ (rdA 9 0 0 (xs.drop k0) = none ∧ Bad e ∧ ∃ j, RdrT w0 g v xs tl j w')) ∧ w.grownBy w' (some g) := by
  have HB : Hid (∀ x ∈ xs, 0 ≤ x ∧ x ≤ 255) := hb
  clear hb
  go_enter Tryz.func136, Tryz.ntmps136
  go_wp2
  go_loopw [3, 6] (fun x s wr => ∃ (k : Nat) (acc : Int), k ≤ 9 ∧ s = .int .i64 k ∧ x = .int .i64 acc ∧ 0 ≤ acc ∧ acc < 128 ^ k ∧ rdA (9 - k) k acc (xs.drop (k0 + k)) = rdA 9 0 0 (xs.drop k0) ∧ RdrT w0 g v xs tl (k0 + k : Nat) wr ∧ w.grownBy wr (some g)) (fun _ s _ => 9 - (intOf s).toNat)
  case atStart => exact ⟨0, 0, by omega, rfl, rfl, by omega, by simp, rfl, h, World.grownBy.refl _ _⟩
  case round =>
    clear h
    obtain ⟨k, acc, hk, rfl, rfl, a0, a1, heq, rdr, gro⟩ := hrel
    have HEQ := (show Hid (_ = _) from heq)
    have HA := (show Hid (_ ∧ _) from ⟨a0, a1⟩)
    clear heq a1
    by_cases hk9 : k < 9
    · by_cases hin : k0 + k < xs.length
      · obtain ⟨d, hd⟩ : ∃ d, d = xs.getD (k0 + k) 0 := ⟨_, rfl⟩
        have one := oneByteT_yes rdr HB.out hin
        rw [← hd] at one
        have hdb : 0 ≤ d ∧ d ≤ 255 := by
          rw [hd, List.getD_eq_getElem?_getD, List.getElem?_eq_getElem hin]
          exact HB.out _ (List.getElem_mem hin)
        have hdrop : xs.drop (k0 + k) = d :: xs.drop (k0 + k + 1) := by
          rw [hd, List.drop_eq_getElem_cons hin, List.getD_eq_getElem?_getD, List.getElem?_eq_getElem hin]
          rfl
        have HD := (show Hid (_ = _) from hdrop)
        have ONE : Hid (Calls Tryz.prog 169 #[.pointer (some ⟨g, 0, none⟩)] wr fun e w' => e = .returned (.int .i64 d) ∧ RdrT w0 g v xs tl (k0 + k + 1 : Nat) w' ∧ wr.grownBy w' (some g)) := one
        clear hd hdrop one
        go_wp2_with fail
        go_at_call 169
        refine ONE.out.mono ?_
        rintro e w2 ⟨rfl, r2, g2⟩
        replace g2 := grown_trans gro g2
        have R2 := (show Hid (_ ∧ _) from ⟨r2, g2⟩)
        clear r2 g2 ONE gro rdr
        by_cases hlt : d < 128
        · have hdm : d % 128 = d := by omega
          have hsh := sh_eq (k := k) (d := d) (by omega) HA.out.1 HA.out.2 hdb.1 hlt
          have HSH := (show Hid (_ = _) from hsh)
          clear hsh
          by_cases hbad : d = 0 ∧ 0 < k
          · obtain ⟨rfl, hkp⟩ := hbad
            have hz : ((k : Int) == 0) = false := by simp; omega
            go_wp2_with fail
            go_at_call 135
            refine (need_no _).mono ?_
            rintro e w4 ⟨⟨t, s, rfl⟩, rfl⟩
            go_wp2
            refine ⟨rfl, .inr ⟨?_, ⟨_, _, rfl⟩, _, R2.out.1⟩, R2.out.2⟩
            rw [← HEQ.out, HD.out]
            obtain ⟨m, hm⟩ : ∃ m, 9 - k = m + 1 := ⟨9 - k - 1, by omega⟩
            rw [hm, rdA_bad (by omega) ⟨rfl, hkp⟩]
          · have hend : ∃ y n, rdA 9 0 0 (xs.drop k0) = some (y, n) ∧ y = acc + d * 128 ^ k ∧ n = k + 1 := by
              refine ⟨_, _, ?_, rfl, rfl⟩
              rw [← HEQ.out, HD.out]
              obtain ⟨m, hm⟩ : ∃ m, 9 - k = m + 1 := ⟨9 - k - 1, by omega⟩
              rw [hm, rdA_end hlt hbad]
            have HEND := (show Hid (∃ y n, _) from hend)
            clear hend
            by_cases hd0 : 0 < d
            · go_wp2_with fail
              go_at_call 135
              refine (need_yes _).mono ?_
              rintro e w4 ⟨rfl, rfl⟩
              go_wp2
              go_ret
              obtain ⟨y, n, h1, rfl, rfl⟩ := HEND.out
              refine ⟨.inl ⟨_, _, h1, ret_int ?_, by rw [← Nat.add_assoc]; exact R2.out.1⟩, R2.out.2⟩
              first | exact HSH.out | (rw [hdm]; exact HSH.out)
            · have hz0 : d = 0 := by omega
              have hk0 : k = 0 := by omega
              subst hz0 hk0
              go_wp2_with fail
              go_at_call 135
              refine (need_yes _).mono ?_
              rintro e w4 ⟨rfl, rfl⟩
              go_wp2
              go_ret
              obtain ⟨y, n, h1, rfl, rfl⟩ := HEND.out
              refine ⟨.inl ⟨_, _, h1, ret_int ?_, by rw [← Nat.add_assoc]; exact R2.out.1⟩, R2.out.2⟩
              have ha := HA.out
              have hac : acc = 0 := by have := ha.2; simp at this; omega
              subst hac
              simp [wrap64]
        · have hsh := sh_eq (k := k) (d := d % 128) (by omega) HA.out.1 HA.out.2 (by omega) (by omega)
          have hac := acc_step (k := k) (d := d % 128) HA.out.1 HA.out.2 (by omega) (by omega)
          have HSH := (show Hid (_ ∧ _) from ⟨hsh, hac⟩)
          clear hsh hac
          go_wp2
          go_roundw
          case rel =>
            refine ⟨k + 1, _, by omega, by go_num, rfl, by rw [HSH.out.1]; exact HSH.out.2.1, by rw [HSH.out.1]; exact HSH.out.2.2, ?_, by rw [← Nat.add_assoc]; exact R2.out.1, R2.out.2⟩
            rw [HSH.out.1, ← HEQ.out, HD.out, ← Nat.add_assoc]
            obtain ⟨m, hm⟩ : ∃ m, 9 - k = m + 1 := ⟨9 - k - 1, by omega⟩
            have hm' : 9 - (k + 1) = m := by omega
            rw [hm, hm', rdA_on (by omega)]
          case measure => simp [intOf]; omega
      · have hno := oneByteT_no rdr (.inr (by omega))
        have ONE : Hid (Calls Tryz.prog 169 #[.pointer (some ⟨g, 0, none⟩)] wr fun e w' => Bad e ∧ RdrT w0 g v xs tl (k0 + k : Nat) w' ∧ wr.grownBy w' (some g)) := hno
        clear hno
        go_wp2_with fail
        go_at_call 169
        refine ONE.out.mono ?_
        rintro e w2 ⟨⟨t, s, rfl⟩, r2, g2⟩
        go_wp2
        refine ⟨rfl, .inr ⟨?_, ⟨_, _, rfl⟩, _, r2⟩, grown_trans gro g2⟩
        rw [← HEQ.out, List.drop_eq_nil_of_le (by omega), rdA_nil]
    · have hke : k = 9 := by omega
      subst hke
      go_wp2
      refine ⟨rfl, .inr ⟨?_, ⟨_, _, rfl⟩, _, rdr⟩, gro⟩
      rw [← HEQ.out]
      rfl

theorem numT_neg {w0 : World} {g : Nat} {v : Value} {xs : List Int} {tl : List Value} {i : Int} {w : World} (h : RdrT w0 g v xs tl i w) (hi : i < 0) :
    Calls Tryz.prog 136 #[.pointer (some ⟨g, 0, none⟩)] w fun e w' => Bad e ∧ (∃ j, RdrT w0 g v xs tl j w') ∧ w.grownBy w' (some g) := by
  have ONE : Hid (Calls Tryz.prog 169 #[.pointer (some ⟨g, 0, none⟩)] w fun e w' => Bad e ∧ RdrT w0 g v xs tl i w' ∧ w.grownBy w' (some g)) := oneByteT_no h (.inl hi)
  go_enter Tryz.func136, Tryz.ntmps136
  go_wp2
  go_loopw [3, 6] (fun x s wr => x = .int .i64 0 ∧ s = .int .i64 0 ∧ Hid (wr = w)) (fun _ _ _ => 0)
  case atStart => exact ⟨rfl, rfl, rfl⟩
  case round =>
    obtain ⟨rfl, rfl, hw⟩ := hrel
    have e := hw.out
    subst e
    go_wp2_with fail
    go_at_call 169
    refine ONE.out.mono ?_
    rintro e w2 ⟨⟨t, s, rfl⟩, r2, g2⟩
    go_wp2
    exact ⟨rfl, ⟨_, _, rfl⟩, ⟨_, r2⟩, g2⟩

theorem numT_any {w0 : World} {g : Nat} {v : Value} {xs : List Int} {tl : List Value} {i : Int} {w : World} (h : RdrT w0 g v xs tl i w) (hb : ∀ x ∈ xs, 0 ≤ x ∧ x ≤ 255) :
    Calls Tryz.prog 136 #[.pointer (some ⟨g, 0, none⟩)] w fun e w' => ((∃ y n, rdI xs i = some (y, n) ∧ e = .returned (.int .i64 y) ∧ RdrT w0 g v xs tl (i + n) w') ∨ (rdI xs i = none ∧ Bad e ∧ ∃ j, RdrT w0 g v xs tl j w')) ∧ w.grownBy w' (some g) := by
  by_cases hi : i < 0
  · refine (numT_neg h hi).mono ?_
    rintro e w' ⟨h1, h2, h3⟩
    exact ⟨.inr ⟨rdI_neg hi, h1, h2⟩, h3⟩
  · obtain ⟨k, rfl⟩ : ∃ k : Nat, i = k := ⟨i.toNat, by omega⟩
    rw [rdI_nat]
    refine (numT_at h hb).mono ?_
    rintro e w' ⟨h1, h3⟩
    refine ⟨?_, h3⟩
    rcases h1 with ⟨y, n, h1, h2, h4⟩ | h1
    · exact .inl ⟨y, n, h1, h2, by rw [Int.natCast_add] at h4; exact h4⟩
    · exact .inr h1
set_option maxHeartbeats 1000000 in
theorem textT_any {w0 : World} {g : Nat} {v : Value} {xs : List Int} {tl : List Value} {i : Int} {w : World} (h : RdrT w0 g v xs tl i w) (hb : ∀ x ∈ xs, 0 ≤ x ∧ x ≤ 255) :
    Calls Tryz.prog 137 #[.pointer (some ⟨g, 0, none⟩)] w fun e w' => ((∃ t j, rdT xs i = some (t, j) ∧ e = .returned (.string (strOf t)) ∧ RdrT w0 g v xs tl j w') ∨ (rdT xs i = none ∧ Bad e ∧ ∃ j, RdrT w0 g v xs tl j w')) ∧ w.grownBy w' (some g) := by
  have CALL := (show Hid (Calls Tryz.prog 136 #[.pointer (some ⟨g, 0, none⟩)] w _) from numT_any h hb)
  go_enter Tryz.func137, Tryz.ntmps137
  go_wp2_with fail
  go_at_call 136
  refine CALL.out.mono ?_
  rintro e w2 ⟨hor, g2⟩
  clear CALL
  rcases hor with ⟨y, n, hy, rfl, r2⟩ | ⟨hy, ⟨t, s, rfl⟩, j, r2⟩
  · obtain ⟨k, p, rfl, hp, hpl, hkm, -⟩ := rdI_nats hy hb
    rw [hp] at r2
    obtain ⟨c0, c1, f1⟩ := r2.cells
    have h4 := r2.2.2.2.1
    have hsl := r2.sl
    have R2 := (show Hid (_ ∧ _) from ⟨r2, g2⟩)
    by_cases hk : (k : Int) ≤ xs.length - (p : Int)
    · have HT := (show Hid (_ = _) from rdT_fit hy hp hk)
      clear hy hp r2 g2 h
      obtain ⟨a, ca, rfl, hl1, hl2, hl3, ha⟩ := hsl
      clear ha
      have hwr : IntKind.i64.wrap ((xs.length : Int) - (p : Int)) = (xs.length : Int) - (p : Int) := wrap_fit7 (by omega) (by omega)
      go_wp2
      go_region_held (fun w' => w'.cell? ⟨g, 0, none⟩ = some (.slice a xs.length ca) ∧ w'.cell? ⟨g, 1, none⟩ = some (.int .i64 p)) (go_keep)
        ((go_at_call 135; refine (need_yes _).mono ?_; rintro e w4 ⟨rfl, rfl⟩))
      go_wp2
      refine region_tail 9 (by kernel_rfl) (by kernel_rfl) ?_
      intro w1 K1 hW1 hK1
      have ne := One.any w1
      have r3 : RdrT w0 g (.slice a xs.length ca) xs tl ((p : Int) + (k : Int)) w1 := by rw [hW1.out]; exact ((R2.out.1.set _).drewN 1).drewN 1
      have g3 : w.grownBy w1 (some g) := by rw [hW1.out]; exact grown_trans (grown_trans R2.out.2 (grown_setCell w2 g 1 (.int .i64 ((p : Int) + (k : Int))))) (grown_drewN _ 2 _)
      have hs1 := r3.sl
      obtain ⟨e0, e1, _⟩ := r3.cells
      have d1 : ∀ n : One w1, n.w.cell? ⟨g, 1, none⟩ = some (.int .i64 ((p : Int) + (k : Int))) := fun n => by rw [n.eq]; exact e1
      have d0 : ∀ n : One w1, n.w.cell? ⟨g, 0, none⟩ = some (.slice a xs.length ca) := fun n => by rw [n.eq]; exact e0
      have END := (show Hid (_ ∧ _ ∧ _) from ⟨HT.out, r3, g3⟩)
      clear HT R2 hW1 r3 g3 c0 c1 f1 hwr
      simp only [List.take_succ_cons, List.take_zero, List.drop_succ_cons, List.drop_zero] at hK1 ⊢
      repeat (go_big_quiet_step (fail))
      refine wpQuiet_nil ?_
      refine hK1.out _ ?_
      clear hK1
      by_cases hca : ca = p
      · subst hca
        obtain rfl : k = 0 := by omega
        have cv := conv_sl (sub_sl0 (K := .u8) (w := w1) a)
        go_wp2
        go_ret
        obtain ⟨t1, t2, t3⟩ := END.out
        exact ⟨.inl ⟨_, _, t1, by simp, t2⟩, t3⟩
      · have cv := conv_sl (sub_sl hs1 (p := p) (k := k) (by omega) hca)
        go_wp2
        go_ret
        obtain ⟨t1, t2, t3⟩ := END.out
        exact ⟨.inl ⟨_, _, t1, rfl, t2⟩, t3⟩
    · have HT := (show Hid (_ = _) from rdT_over hy hp hk)
      clear hy hp r2 g2 h
      obtain ⟨a, ca, rfl, hl1, hl2, hl3, ha⟩ := hsl
      clear ha
      have hk' : decide ((k : Int) ≤ xs.length - (p : Int)) = false := by simp; omega
      go_wp2
      refine region_tail 12 (by kernel_rfl) (by kernel_rfl) ?_
      intro w1 K1 hW1 hK1
      have ne := One.any w1
      have d1 : ∀ n : One w1, n.w.cell? ⟨g, 1, none⟩ = some (.int .i64 p) := fun n => by rw [n.eq, hW1.out]; exact c1
      have d0 : ∀ n : One w1, n.w.cell? ⟨g, 0, none⟩ = some (.slice a xs.length ca) := fun n => by rw [n.eq, hW1.out]; exact c0
      simp only [List.take_succ_cons, List.take_zero, List.drop_succ_cons, List.drop_zero] at hK1 ⊢
      repeat (go_big_quiet_step (fail))
      refine wpQuiet_nil ?_
      refine hK1.out _ ?_
      clear hK1
      go_wp2_with fail
      go_at_call 135
      refine (need_no _).mono ?_
      rintro e w4 ⟨⟨t, s, rfl⟩, rfl⟩
      go_wp2
      rw [hW1.out]
      exact ⟨rfl, .inr ⟨HT.out, ⟨_, _, rfl⟩, _, R2.out.1.drewN 1⟩, grown_trans R2.out.2 (grown_drewN w2 1 _)⟩
  · have END := (show Hid (_ ∧ _ ∧ _) from ⟨rdT_none hy, r2, g2⟩)
    clear hy r2 g2
    go_wp2
    exact ⟨rfl, .inr ⟨END.out.1, ⟨_, _, rfl⟩, _, END.out.2.1⟩, END.out.2.2⟩

theorem pT_any {w0 : World} {g : Nat} {v : Value} {xs : List Int} {tl : List Value} {i : Nat} {w : World} (h : RdrT w0 g v xs tl i w) (hb : ∀ x ∈ xs, 0 ≤ x ∧ x ≤ 255) :
    Calls Tryz.prog 136 #[.pointer (some ⟨g, 0, none⟩)] w fun e w' => ((∃ k j : Nat, rdP xs i = some (k, j) ∧ e = .returned (.int .i64 (k : Int)) ∧ RdrT w0 g v xs tl j w') ∨ (rdP xs i = none ∧ Bad e ∧ ∃ j, RdrT w0 g v xs tl j w')) ∧ w.grownBy w' (some g) := by
  refine (numT_any h hb).mono ?_
  rintro e w' ⟨ho, hg⟩
  refine ⟨?_, hg⟩
  rcases ho with ⟨y, n, hy, rfl, hr⟩ | ⟨hy, hbad, hr⟩
  · obtain ⟨k, p, rfl, e2, _, _, _⟩ := rdI_nats hy hb
    refine .inl ⟨k, p, ?_, rfl, by rw [e2] at hr; exact hr⟩
    unfold rdP
    rw [hy]
    simp only [Int.toNat_natCast, Option.some.injEq, Prod.mk.injEq, true_and]
    omega
  · exact .inr ⟨by unfold rdP; rw [hy], hbad, hr⟩
theorem xT_any {w0 : World} {g : Nat} {v : Value} {xs : List Int} {tl : List Value} {i : Nat} {w : World} (h : RdrT w0 g v xs tl i w) (hb : ∀ x ∈ xs, 0 ≤ x ∧ x ≤ 255) :
    Calls Tryz.prog 137 #[.pointer (some ⟨g, 0, none⟩)] w fun e w' => ((∃ (s : ByteArray) (j : Nat), rdX xs i = some (s, j) ∧ e = .returned (.string s) ∧ RdrT w0 g v xs tl j w') ∨ (rdX xs i = none ∧ Bad e ∧ ∃ j, RdrT w0 g v xs tl j w')) ∧ w.grownBy w' (some g) := by
  refine (textT_any h hb).mono ?_
  rintro e w' ⟨ho, hg⟩
  refine ⟨?_, hg⟩
  rcases ho with ⟨t, j, ht, rfl, hr⟩ | ⟨ht, hbad, hr⟩
  · have hs := rdT_some2 ht hb
    refine .inl ⟨strOf t, j.toNat, by unfold rdX; rw [ht], rfl, ?_⟩
    have ej : (j.toNat : Int) = j := by omega
    rw [ej]
    exact hr
  · exact .inr ⟨by unfold rdX; rw [ht], hbad, hr⟩
end Go.Proofs.YtogdbjafibejdaaGreat
