/- The law FnSectors, walked. No condition. -/
import Derived.Test.YtdhnoaajdjkddaaDrawD4
import Derived.Test.YtdhnoaajdjkddaaID4
import Derived.Test.YtdhnoaajdjkddaaID2
namespace Go.Proofs.Ytdhnoaajdjkddaa
open Go.RowKit
set_option maxRecDepth 100000
set_option linter.unusedVariables false

theorem crashDk_yes {d : PDisk} {x : Int} (h : (crashDk d x).2 = true) : diskB d = true ∧ crashDk d x = (doneDk x d, true) := by
  unfold crashDk at h ⊢
  split at h
  · cases h
  · rename_i hn
    rw [if_neg hn]
    refine ⟨?_, rfl⟩
    cases hb : diskB d
    · exact absurd (.inl hb) hn
    · rfl
theorem crashDk_no {d : PDisk} {x : Int} (h : (crashDk d x).2 = false) : (crashDk d x).1 = zeroDk := by
  unfold crashDk at h ⊢
  split at h
  · rename_i hn; rw [if_pos hn]
  · cases h
theorem crashDk_fit {d : PDisk} (h : DiskFit d) (x : Int) : DiskFit (crashDk d x).1 := by
  unfold crashDk
  split
  · exact ⟨by decide, by decide, (fun s hs => by cases hs), (fun p hp => by cases hp)⟩
  · exact ⟨by show (doneN x d.safe d.late d.late.length).length ≤ _; rw [doneN_len]; exact h.sl, Nat.zero_le _, doneN_size h.st h.lt _, (fun p hp => by cases hp)⟩
/-- Some put of that sector has that text. -/
def someP (i : Int) (t : ByteArray) (ps : List (Int × ByteArray)) : Bool := ps.any fun p => decide (p.1 = i) && decide (p.2 = t)
theorem someP_snoc (i : Int) (t : ByteArray) (ps : List (Int × ByteArray)) (p : Int × ByteArray) : someP i t (ps ++ [p]) = (someP i t ps || (decide (p.1 = i) && decide (p.2 = t))) := by simp [someP]
theorem someP_take {i : Int} {t : ByteArray} {ps : List (Int × ByteArray)} {k : Nat} (h : k < ps.length) : someP i t (ps.take (k + 1)) = (someP i t (ps.take k) || (decide (ps[k].1 = i) && decide (ps[k].2 = t))) := by
  rw [List.take_succ_eq_append_getElem h, someP_snoc]
/-- Each sector is as it was, or as one of its puts. -/
theorem done_some {keep : Int} {d : PDisk} (hd : diskB d = true) (i : Nat) (hi : i < d.safe.length) (k : Nat) (hk : k ≤ d.late.length) :
    (doneN keep d.safe d.late k)[i]'(by rw [doneN_len]; exact hi) = d.safe[i] ∨ someP i ((doneN keep d.safe d.late k)[i]'(by rw [doneN_len]; exact hi)) (d.late.take k) = true := by
  induction k with
  | zero => exact .inl rfl
  | succ k ih =>
    have hlt : k < d.late.length := by omega
    have hr := diskB_late hd hlt
    have ih := ih (by omega)
    have key : ∀ (L : List ByteArray) (hL : i < L.length), doneN keep d.safe d.late (k + 1) = L → (L[i] = d.safe[i] ∨ someP i L[i] (d.late.take (k + 1)) = true) → ((doneN keep d.safe d.late (k + 1))[i]'(by rw [doneN_len]; exact hi) = d.safe[i] ∨ someP i ((doneN keep d.safe d.late (k + 1))[i]'(by rw [doneN_len]; exact hi)) (d.late.take (k + 1)) = true) := by
      intro L hL e h
      subst e
      exact h
    cases hb : bitB keep k
    · refine key (doneN keep d.safe d.late k) (by rw [doneN_len]; exact hi) (by rw [doneN_succ hlt, hb]; rfl) ?_
      rcases ih with h | h
      · exact .inl h
      · right; rw [someP_take hlt, h]; rfl
    · refine key ((doneN keep d.safe d.late k).set d.late[k].1.toNat d.late[k].2) (by rw [List.length_set, doneN_len]; exact hi) (by rw [doneN_succ hlt, hb]; rfl) ?_
      by_cases e : d.late[k].1.toNat = i
      · right
        rw [someP_take hlt]
        have e1 : d.late[k].1 = (i : Int) := by omega
        simp [e1]
      · rw [List.getElem_set_ne e]
        rcases ih with h | h
        · exact .inl h
        · right; rw [someP_take hlt, h]; rfl
/-- All done, each sector is as it was put last. -/
theorem done_all {d : PDisk} (hd : diskB d = true) (i : Nat) (hi : i < d.safe.length) (k : Nat) (hk : k ≤ d.late.length) :
    (doneN 2147483647 d.safe d.late k)[i]'(by rw [doneN_len]; exact hi) = (putAt i (d.late.take k)).getD d.safe[i] := by
  induction k with
  | zero => simp [doneN, putAt]
  | succ k ih =>
    have hlt : k < d.late.length := by omega
    have hr := diskB_late hd hlt
    have ih := ih (by omega)
    have e0 : doneN 2147483647 d.safe d.late (k + 1) = (doneN 2147483647 d.safe d.late k).set d.late[k].1.toNat d.late[k].2 := by rw [doneN_succ hlt, bit_all]; rfl
    have key : ∀ (L : List ByteArray) (hL : i < L.length), doneN 2147483647 d.safe d.late (k + 1) = L → L[i] = (putAt i (d.late.take (k + 1))).getD d.safe[i] → (doneN 2147483647 d.safe d.late (k + 1))[i]'(by rw [doneN_len]; exact hi) = (putAt i (d.late.take (k + 1))).getD d.safe[i] := by
      intro L hL e h
      subst e
      exact h
    refine key _ (by rw [List.length_set, doneN_len]; exact hi) e0 ?_
    rw [putAt_take hlt]
    by_cases e : d.late[k].1.toNat = i
    · have e1 : d.late[k].1 = (i : Int) := by omega
      rw [if_pos e1]
      simp [e]
    · have e1 : d.late[k].1 ≠ (i : Int) := by omega
      rw [if_neg e1, List.getElem_set_ne e]
      exact ih
theorem sector_done (keep : Int) (d : PDisk) (i : Nat) (hi : i < d.safe.length) : sectorD (doneDk keep d) i = (doneN keep d.safe d.late d.late.length)[i]'(by rw [doneN_len]; exact hi) := by
  have hl : i < (doneN keep d.safe d.late d.late.length).length := by rw [doneN_len]; exact hi
  simp [sectorD, doneDk, putAt, List.getD_eq_getElem?_getD, List.getElem?_eq_getElem hl]
theorem sector_at (d : PDisk) (i : Nat) (hi : i < d.safe.length) : sectorD d i = (putAt i d.late).getD d.safe[i] := by
  simp [sectorD, List.getD_eq_getElem?_getD, hi]
theorem sectorDk_ok {d : PDisk} (h : diskB d = true) {i : Int} (h0 : 0 ≤ i) (h1 : i ≤ 129) : sectorDk d i = (sectorD d i, true) := by
  rw [sectorDk, if_neg (by rw [h, inB_yes h0 (by omega)]; simp)]
end Go.Proofs.Ytdhnoaajdjkddaa
