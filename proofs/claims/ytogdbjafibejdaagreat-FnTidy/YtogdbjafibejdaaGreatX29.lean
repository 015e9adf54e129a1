/- A name in a list of strings that is written out: the specification's l7Find and l8In. -/
import Derived.Test.YtogdbjafibejdaaGreatX8
namespace Go.Proofs.YtogdbjafibejdaaGreat
open Go.RowKit
set_option maxRecDepth 100000
set_option linter.unusedVariables false

theorem toList_no {a b : ByteArray} (h : a ≠ b) : (a.toList == b.toList) = false := by
  rw [beq_eq_false_iff_ne]
  exact fun e => h ((toList_eq_iff a b).mp e)

def hasB (ts : List ByteArray) (s : ByteArray) : Bool := ts.any fun t => s.toList == t.toList
theorem hasB_iff (ts : List ByteArray) (s : ByteArray) : hasB ts s = true ↔ s ∈ ts := by
  unfold hasB
  rw [List.any_eq_true]
  constructor
  · rintro ⟨t, ht, e⟩
    rw [beq_iff_eq, toList_eq_iff] at e
    exact e.symm ▸ ht
  · intro h
    exact ⟨s, h, by simp⟩
theorem hasB_no {ts : List ByteArray} {s : ByteArray} (h : s ∉ ts) : hasB ts s = false := by
  cases e : hasB ts s
  · rfl
  · exact absurd ((hasB_iff ts s).1 e) h

/-- The block g holds these strings. -/
def Txt (w : World) (g : Nat) (ts : List ByteArray) : Prop := ∀ k (hk : k < ts.length), w.cell? ⟨g, k, none⟩ = some (.string ts[k])

theorem txt_alloc (w : World) (cs : Array Value) (ts : List ByteArray) (t : TypeId) (hcs : cs.toList = ts.map Value.string) : Txt (w.alloc (.cells cs t)) w.heap.size ts := by
  intro k hk
  have e2 : cs[k]? = some (.string ts[k]) := by
    have : cs.toList[k]? = some (.string ts[k]) := by rw [hcs]; simp [hk]
    simpa using this
  simp only [World.cell?, heap_alloc_new]
  simpa using e2

set_option maxRecDepth 100000 in
theorem sfind_any {w : World} {g : Nat} {ts : List ByteArray} (h : Txt w g ts) (s : ByteArray) (hn : ts.length ≤ 1000) {n : Nat} (hnn : n = ts.length) :
    Calls Tryz.prog 90 #[.slice (some ⟨g, 0, none⟩) n n, .string s] w fun e w' => ∃ x : Int, e = .returned (.int .i64 x) ∧ -1 ≤ x ∧ x ≤ 1000 ∧ (0 ≤ x ↔ s ∈ ts) ∧ w' = w := by
  subst hnn
  have H : Hid (Txt w g ts) := h
  clear h
  go_enter Tryz.func90, Tryz.ntmps90
  go_wp2
  go_loop [5] (fun i => ∃ k : Nat, k ≤ ts.length ∧ i = .int .i64 k ∧ s ∉ ts.take k) (fun i => ts.length - (intOf i).toNat)
  case atStart => exact ⟨0, Nat.zero_le _, rfl, by simp⟩
  case round =>
    obtain ⟨k, hk, rfl, he⟩ := hrel
    have HE := (show Hid _ from he)
    clear he
    by_cases hlt : k < ts.length
    · have c1 := H.out k hlt
      obtain ⟨x, hx⟩ : ∃ x, x = ts[k] := ⟨_, rfl⟩
      rw [← hx] at c1
      have HX := (show Hid _ from hx)
      clear hx
      by_cases hm : x = s
      · have HM : Hid (s ∈ ts) := by rw [← hm, HX.out]; exact List.getElem_mem hlt
        subst hm
        go_wp2
        go_ret
        exact ⟨_, rfl, by omega, by omega, by simp [HM.out], rfl⟩
      · have hd := toList_no hm
        have HM : Hid (s ∉ ts.take (k + 1)) := by
          intro hmm
          rw [List.take_succ_eq_append_getElem hlt, List.mem_append, ← HX.out] at hmm
          rcases hmm with hmm | hmm
          · exact HE.out hmm
          · simp at hmm; exact hm hmm.symm
        go_wp2
        go_round
        case rel => exact ⟨k + 1, by omega, by go_num, HM.out⟩
        case measure => simp [intOf]; omega
    · have HM : Hid (s ∉ ts) := by
        have := HE.out
        rw [show k = ts.length by omega, List.take_length] at this
        exact this
      go_wp2
      go_ret
      exact ⟨_, rfl, by omega, by omega, by simp [HM.out], rfl⟩

set_option maxRecDepth 100000 in
theorem sin_any {w : World} {g : Nat} {ts : List ByteArray} (h : Txt w g ts) (s : ByteArray) (hn : ts.length ≤ 1000) {n : Nat} (hnn : n = ts.length) :
    Calls Tryz.prog 165 #[.slice (some ⟨g, 0, none⟩) n n, .string s] w fun e w' => e = .returned (.bool (hasB ts s)) ∧ w' = w := by
  have H : Hid (Txt w g ts) := h
  clear h
  subst hnn
  go_enter Tryz.func165, Tryz.ntmps165
  go_wp2_with fail
  go_at_call 90
  refine (sfind_any H.out s hn rfl).mono ?_
  rintro e w1 ⟨x, rfl, x1, x2, x3, rfl⟩
  clear H
  have HB : Hid (decide (0 ≤ x) = hasB ts s) := by
    by_cases hx : 0 ≤ x
    · rw [(hasB_iff ts s).2 (x3.1 hx)]; exact decide_eq_true hx
    · rw [hasB_no (fun h => hx (x3.2 h))]; exact decide_eq_false hx
  clear x3
  go_wp2
  go_ret
  exact ⟨ret_bool HB.out, rfl⟩
end Go.Proofs.YtogdbjafibejdaaGreat
