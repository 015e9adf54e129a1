/- The exact law of IndexOf from its contract. -/
import Derived.Test.YtokkigfjabbdaaaGreatDoorU42
import Derived.Test.YtokkigfjabbdaaaGreatDoorU28
import Derived.Test.YtokkigfjabbdaaaGreatDoorU41
namespace Go.Proofs.YtokkigfjabbdaaaGreatDoor
open Go.RowKit
set_option maxRecDepth 100000
set_option linter.unusedVariables false

def ShortR (rs : List PRec) : Prop := rs.length ≤ 1048576 ∧ ∀ p ∈ rs, p.url.size ≤ 1048576 ∧ p.body.size ≤ 1048576
def IndexOfOk : Prop := ∀ (v : Value) (rs : List PRec) (w : World), Sv 3 w v (recCells rs) → ShortR rs → Calls Tryz.prog 88 #[v] w fun e w' => ∃ v', e = .returned v' ∧ OwnPs w.heap.size w' v' (idxOf rs) ∧ Below w.heap.size w w'

theorem idxOf_len (rs : List PRec) : (idxOf rs).length ≤ rs.length := by
  have := idxN_len rs []
  simpa [idxOf] using this

end Go.Proofs.YtokkigfjabbdaaaGreatDoor

/- The program's IndexOf. -/
namespace Go.Proofs.YtokkigfjabbdaaaGreatDoor
open Go.RowKit Go.Maps
set_option maxRecDepth 100000
set_option linter.unusedVariables false

theorem idxN_snoc (r : PRec) : ∀ (rs : List PRec) (out : List (ByteArray × ByteArray)), idxN (rs ++ [r]) out = insE r (decide (r.kind ≠ 1)) (idxN rs out) := by
  intro rs
  induction rs with
  | nil => intro out; rfl
  | cons q rs ih => intro out; rw [List.cons_append, idxN, ih, idxN]
theorem idxN_mem : ∀ (rs : List PRec) (out : List (ByteArray × ByteArray)) (p : ByteArray × ByteArray), p ∈ idxN rs out → p ∈ out ∨ ∃ r ∈ rs, p = (r.url, r.body) := by
  intro rs
  induction rs with
  | nil => intro out p h; exact .inl h
  | cons r rs ih =>
    intro out p h
    rcases ih _ p h with h | ⟨q, hq, e⟩
    · rcases insE_mem _ _ p h with ⟨_, e⟩ | ⟨h, _⟩
      · exact .inr ⟨r, List.mem_cons_self .., e⟩
      · exact .inl h
    · exact .inr ⟨q, List.mem_cons_of_mem _ hq, e⟩
theorem idxOf_small {rs : List PRec} (h : ShortR rs) : ∀ p ∈ idxOf rs, p.1.size ≤ 1048576 ∧ p.2.size ≤ 1048576 := by
  intro p hp
  rcases idxN_mem rs [] p hp with h' | ⟨r, hr, e⟩
  · cases h'
  · rw [e]; exact h.2 r hr

set_option maxHeartbeats 2000000 in
set_option maxRecDepth 100000 in
theorem iindexOf_any : IndexOfOk := by
  intro v rs w h hs
  obtain ⟨a, ca, rfl, _, _, hca⟩ := h.recs
  have HC := (show Hid (∀ k (hk : k < rs.length), ∃ b off, a = some ⟨b, off, none⟩ ∧ b < w.heap.size ∧ w.cell? ⟨b, off + k * 3, none⟩ = some (.int .i64 rs[k].kind) ∧ w.cell? ⟨b, off + k * 3 + 1, none⟩ = some (.string rs[k].url) ∧ w.cell? ⟨b, off + k * 3 + 2, none⟩ = some (.string rs[k].body)) from hca)
  have HS := (show Hid (ShortR rs) from hs)
  have hn := hs.1
  clear h hca hs
  have hmm := run_makeMap (P := Tryz.prog) 150 w
  go_enter Tryz.func88, Tryz.ntmps88
  go_wp2
  go_loopw [9] (fun i wr => ∃ (k m : Nat) (D : DataW Unit), k ≤ rs.length ∧ i = .int .i64 k ∧ m ≤ k ∧ Hid (wr.ownsMap Tryz.prog 9 entElem w.heap.size m D) ∧ Hid (IdxD D (idxN (rs.take k) [])) ∧ Hid (Below w.heap.size w wr)) (fun i _ => rs.length - (intOf i).toNat)
  case atStart => exact ⟨0, 0, .map [], Nat.zero_le _, rfl, Nat.le_refl _, World.ownsMap_made _ _ _ _, idxD_nil, (Below.refl _ _).alloc (Nat.le_refl _) _⟩
  case round =>
    obtain ⟨k, m, D, hk, rfl, hm, hM, hI, hB⟩ := hrel
    by_cases hlt : k < rs.length
    · obtain ⟨gb, go, rfl, gl, c0, c1, c2⟩ := HC.out k hlt
      have hus := (HS.out.2 rs[k] (List.getElem_mem hlt)).1
      have HT := (show Hid (idxN (rs.take (k + 1)) [] = insE rs[k] (decide (rs[k].kind ≠ 1)) (idxN (rs.take k) [])) from (show _ = _ by rw [List.take_succ_eq_append_getElem hlt, idxN_snoc]))
      obtain ⟨x, hx⟩ : ∃ x, x = rs[k] := ⟨_, rfl⟩
      rw [← hx] at c0 c1 c2 hus HT
      clear hx
      obtain ⟨kd, ur, bo⟩ := x
      simp only at c0 c1 c2 hus HT
      have hmx : ur.size ≤ maxLen := by unfold maxLen; omega
      replace c0 := (hB.out.cell (p := ⟨gb, go + k * 3, none⟩) gl).trans c0
      replace c1 := (hB.out.cell (p := ⟨gb, go + k * 3 + 1, none⟩) gl).trans c1
      replace c2 := (hB.out.cell (p := ⟨gb, go + k * 3 + 2, none⟩) gl).trans c2
      have hws := hB.out.size
      have hM1 := (show Hid _ from hM.out.alloc (.cells #[.int .i64 kd, .string ur, .string bo] 94))
      have hB1 := (show Hid _ from hB.out.alloc hws (.cells #[.int .i64 kd, .string ur, .string bo] 94))
      have hm2 : m < 1099511627776 := by omega
      by_cases hkd : kd = 1
      · subst hkd
        go_wp2_with fail
        go_at_call 105
        refine (keepX_any hM1.out hm2 ur bo hmx).mono ?_
        rintro e w2 ⟨rfl, own2, g2⟩
        have I2 := (show Hid _ from hI.out.keep ⟨1, ur, bo⟩)
        have O2 := (show Hid _ from own2)
        have B2 := (show Hid (Below w.heap.size w w2) from hB1.out.grown g2 (by have := hB1.out.size; omega) (fun j hj => by cases hj; exact Nat.le_refl _))
        clear own2 g2
        go_wp2
        go_roundw
        case rel => exact ⟨k + 1, m + 1, _, by omega, by go_num, by omega, O2, by rw [HT.out]; exact I2, B2⟩
        case measure => simp [intOf]; omega
      · have hkb : (kd == 1) = false := beq_eq_false_iff_ne.mpr hkd
        go_wp2_with fail
        go_at_call 106
        refine (dropX_any hM1.out ur hmx).mono ?_
        rintro e w2 ⟨rfl, own2, g2⟩
        have I2 := (show Hid _ from hI.out.drop ⟨kd, ur, bo⟩)
        have O2 := (show Hid _ from own2)
        have B2 := (show Hid (Below w.heap.size w w2) from hB1.out.grown g2 (by have := hB1.out.size; omega) (fun j hj => by cases hj; exact Nat.le_refl _))
        clear own2 g2
        go_wp2
        go_roundw
        case rel => exact ⟨k + 1, m, _, by omega, by go_num, by omega, O2, by rw [HT.out, decide_eq_true hkd]; exact I2, B2⟩
        case measure => simp [intOf]; omega
    · go_wp2_with fail
      go_at_call 107
      have hke : k = rs.length := by omega
      have hI2 : IdxD D (idxOf rs) := by have := hI.out; rwa [hke, List.take_length] at this
      refine (takeAll_any hM.out hI2 (idxOf_rise rs) (by omega) (Nat.le_refl _) (fun p hp => by have := (idxOf_small HS.out p hp).1; unfold maxLen; omega)).mono ?_
      rintro e w2 ⟨v', rfl, o2, b2⟩
      go_wp2
      go_ret
      exact ⟨v', rfl, o2, hB.out.trans b2⟩
end Go.Proofs.YtokkigfjabbdaaaGreatDoor
