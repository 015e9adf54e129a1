/- How long the form of a right tree is; which trees are packed; the reader of a whole tree, plainly. No condition. -/
import Derived.Test.YtogdbjafibejdaaGreatX43
import Derived.Test.YtogdbjafibejdaaGreatX38
namespace Go.Proofs.YtogdbjafibejdaaGreat
open Go.RowKit
set_option maxRecDepth 100000
set_option linter.unusedVariables false

def goodT (ns : List PNode) : Prop := STreeOkP ns ∧ tidyN ns = ns ∧ (packL ns).length ≤ 20000
theorem putS_of {l : List ByteArray} {s x : ByteArray} (h : x ∈ putS l s) : x ∈ l ∨ x = s := by
  unfold putS at h
  split at h
  · rcases List.mem_append.mp h with h | h
    · exact .inl h
    · exact .inr (List.mem_singleton.mp h)
  · exact .inl h
theorem namesA_of : ∀ (rs : List (ByteArray × ByteArray)) (out : List ByteArray) (x : ByteArray), x ∈ namesA out rs → x ∈ out ∨ ∃ r ∈ rs, r.1 = x
  | [], out, x, h => .inl h
  | r :: rs, out, x, h => by
    rcases namesA_of rs (putS out r.1) x h with h | ⟨q, hq, e⟩
    · rcases putS_of h with h | h
      · exact .inl h
      · exact .inr ⟨r, by simp, h.symm⟩
    · exact .inr ⟨q, by simp [hq], e⟩
theorem namesN_of {n : PNode} {out : List ByteArray} {x : ByteArray} (h : x ∈ namesN out n) : x ∈ out ∨ x = n.name ∨ ∃ r ∈ n.attrs, r.1 = x := by
  unfold namesN at h
  rcases namesA_of _ _ _ h with h | h
  · split at h
    · rcases putS_of h with h | h
      · exact .inl h
      · exact .inr (.inl h)
    · exact .inl h
  · exact .inr (.inr h)
theorem namesF_small : ∀ (ns : List PNode) (out : List ByteArray), (∀ n ∈ ns, SmallN n) → (∀ s ∈ out, s.size ≤ 3000) → (∀ s ∈ ns.foldl namesN out, s.size ≤ 3000) ∧ (ns.foldl namesN out).length ≤ out.length + ns.length * 21
  | [], out, _, ho => ⟨ho, by simp⟩
  | n :: ns, out, hs, ho => by
    have h1 := namesF_small ns (namesN out n) (fun m hm => hs m (by simp [hm])) (fun s h => by
      rcases namesN_of h with h | h | ⟨r, hr, e⟩
      · exact ho s h
      · rw [h]; exact (hs n (by simp)).nm
      · have h2 := (hs n (by simp)).each r hr
        rw [← e]
        unfold attrOk at h2
        simp only [Bool.and_eq_true, inB, decide_eq_true_eq] at h2
        omega)
    have h2 := namesN_le out n
    have h3 := (hs n (by simp)).rs
    refine ⟨h1.1, ?_⟩
    have h4 := h1.2
    rw [List.foldl_cons, List.length_cons]
    omega
theorem flatLen_le {α : Type} {l : List α} {g : α → List Int} {m : Nat} (h : ∀ x ∈ l, (g x).length ≤ m) : (l.flatMap g).length ≤ l.length * m := by
  induction l with
  | nil => simp
  | cons a l ih =>
    rw [List.flatMap_cons, List.length_append, List.length_cons, Nat.succ_mul]
    have h1 := h a (by simp)
    have h2 := ih (fun x hx => h x (by simp [hx]))
    omega
theorem attrF_small {nm : List ByteArray} {p : ByteArray × ByteArray} (h : attrOk p = true) : (attrF nm p).length ≤ 3018 := by
  have h1 := form_len (fndS nm p.1)
  have h2 := textForm_len p.2
  unfold attrOk at h
  simp only [Bool.and_eq_true, inB, decide_eq_true_eq] at h
  unfold attrF
  rw [List.length_append]
  omega
theorem attrsF_small {nm : List ByteArray} {n : PNode} (h : SmallN n) (j : Nat) : ((n.attrs.take j).flatMap (attrF nm)).length ≤ 60360 := by
  have h1 := flatLen_le (l := n.attrs.take j) (g := attrF nm) (m := 3018) (fun p hp => attrF_small (h.each p (List.mem_of_mem_take hp)))
  have h2 := h.rs
  have h3 : (n.attrs.take j).length ≤ 20 := by rw [List.length_take]; omega
  have h4 := Nat.mul_le_mul_right 3018 h3
  omega
theorem nodeF_small {nm : List ByteArray} {n : PNode} (h : SmallN n) : (nodeF nm n).length ≤ 70000 := by
  have h1 := form_len n.kind
  have h2 := form_len n.kids.length
  have h3 := form_len (fndS nm n.name)
  have h4 := form_len n.attrs.length
  have h5 := attrsF_small (nm := nm) h n.attrs.length
  rw [List.take_length] at h5
  have h6 := textForm_len n.text
  have h7 := h.tx
  unfold nodeF restF
  rw [List.length_append, List.length_append]
  repeat' split
  all_goals first | (simp only [List.length_append, List.length_nil]; omega) | omega
def headL (ns : List PNode) : List Int := form (namesL ns).length ++ (namesL ns).flatMap textForm ++ form ns.length
theorem packL_eq (ns : List PNode) : packL ns = headL ns ++ ns.flatMap (nodeF (namesL ns)) := by
  simp [packL, headL]
theorem names_small {ns : List PNode} (h : TreeOkP ns) : (∀ s ∈ namesL ns, s.size ≤ 3000) ∧ (namesL ns).length ≤ 10500 := by
  have h1 := namesF_small ns [] (fun n hn => by obtain ⟨k, hk, e⟩ := List.getElem_of_mem hn; rw [← e]; exact small_all h k hk) (fun s hs => by cases hs)
  have h2 := h.most
  rw [List.length_nil] at h1
  refine ⟨h1.1, ?_⟩
  have := h1.2
  unfold namesL
  omega
theorem texts_small {ns : List PNode} (h : TreeOkP ns) (j : Nat) : (((namesL ns).take j).flatMap textForm).length ≤ 31594500 := by
  obtain ⟨h1, h2⟩ := names_small h
  have h3 := flatLen_le (l := (namesL ns).take j) (g := textForm) (m := 3009) (fun s hs => by have := h1 s (List.mem_of_mem_take hs); have := textForm_len s; omega)
  have h4 : ((namesL ns).take j).length ≤ 10500 := by rw [List.length_take]; omega
  have h5 := Nat.mul_le_mul_right 3009 h4
  omega
theorem headL_small {ns : List PNode} (h : TreeOkP ns) : (headL ns).length ≤ 31594600 := by
  have h1 := form_len (namesL ns).length
  have h2 := form_len ns.length
  have h3 := texts_small h (namesL ns).length
  rw [List.take_length] at h3
  unfold headL
  rw [List.length_append, List.length_append]
  omega
theorem nodesF_small {ns : List PNode} {nm : List ByteArray} (h : TreeOkP ns) (k : Nat) : ((ns.take k).flatMap (nodeF nm)).length ≤ 35000000 := by
  have h1 := flatLen_le (l := ns.take k) (g := nodeF nm) (m := 70000) (fun n hn => by
    obtain ⟨k, hk, e⟩ := List.getElem_of_mem (List.mem_of_mem_take hn); rw [← e]; exact nodeF_small (small_all h k hk))
  have h2 : (ns.take k).length ≤ 500 := by rw [List.length_take]; have := h.most; omega
  have h3 := Nat.mul_le_mul_right 70000 h2
  omega
theorem packL_small {ns : List PNode} (h : TreeOkP ns) : (packL ns).length ≤ 66594600 := by
  have h1 := headL_small h
  have h2 := nodesF_small (nm := namesL ns) h ns.length
  rw [List.take_length] at h2
  rw [packL_eq, List.length_append]
  omega

theorem empB_is {s : ByteArray} (h : empB s = true) : s = ⟨#[]⟩ := by
  have h1 := (empB_iff s).mp h
  obtain ⟨d⟩ := s
  have h2 : d.size = 0 := h1
  rw [Array.size_eq_zero_iff.mp h2]
theorem tells_of {ns : List PNode} {k : Nat} (h : TreeOkP ns) (hk : k < ns.length) : Tells (namesL ns) ns[k] := by
  have hg := h.good k hk
  have hs := small_all h k hk
  have hm : ns[k] ∈ ns := List.getElem_mem hk
  obtain ⟨n, hn⟩ : ∃ n, n = ns[k] := ⟨_, rfl⟩
  have hkl := kids_few h _ hm
  have hmost := h.most
  rw [← hn] at hg hs hm hkl ⊢
  have e0 : ∀ s, empB s = true → s = ⟨#[]⟩ := fun s e => empB_is e
  have hkind : n.kind = 1 ∨ n.kind = 2 ∨ n.kind = 3 ∨ n.kind = 4 ∨ n.kind = 5 := by
    unfold goodB nodeB at hg
    repeat' split at hg
    all_goals simp_all
  unfold goodB at hg
  rw [Bool.and_eq_true] at hg
  have hg2 := hg.2
  unfold nodeB at hg2
  refine ⟨hkind, fun h2 => namesL_name hm (by unfold hasName; rcases h2 with h2 | h2 <;> simp [h2]), ?_, fun h3 p hp => ⟨namesL_attr hm hp, ?_⟩, by have := hs.rs; omega, ?_, by have := hs.tx; omega, ?_, by omega⟩
  · intro hno
    rcases hkind with e | e | e | e | e <;> simp only [e, reduceIte, Int.reduceEq, Bool.and_eq_true] at hg2
    · exact e0 _ hg2.1.1
    · exact absurd (.inl e) hno
    · exact absurd (.inr e) hno
    · exact e0 _ hg2.1.1.2
    · exact e0 _ hg2.1.1.2
  · have := hs.each p hp
    unfold attrOk at this
    simp only [Bool.and_eq_true, decide_eq_true_eq] at this
    omega
  · intro hno
    rcases hkind with e | e | e | e | e <;> simp only [e, reduceIte, Int.reduceEq, Bool.and_eq_true, decide_eq_true_eq] at hg2
    · exact List.length_eq_zero_iff.mp hg2.1.2
    · exact List.length_eq_zero_iff.mp hg2.1.1.2
    · exact absurd e hno
    · exact List.length_eq_zero_iff.mp hg2.1.2
    · exact List.length_eq_zero_iff.mp hg2.1.2
  · intro hno
    rcases hkind with e | e | e | e | e <;> simp only [e, reduceIte, Int.reduceEq, Bool.and_eq_true] at hg2
    · exact e0 _ hg2.2
    · exact e0 _ hg2.1.2
    · exact e0 _ hg2.2
    · exact absurd (.inl e) hno
    · exact absurd (.inr e) hno

end Go.Proofs.YtogdbjafibejdaaGreat
