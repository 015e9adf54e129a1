/- The numbers under which this program holds the mutex's functions and types, and that it holds them. No condition. -/
import Derived.Test.YtokkigfjabbdaaaGreatDoorU29
import Derived.Conc.MuLib
import Derived.Conc.MuLone
import Derived.KernelRfl
import Derived.Test.YtokkigfjabbdaaaGreatDoorU28
namespace Go.Proofs.YtokkigfjabbdaaaGreatDoor
open Go.RowKit
set_option maxRecDepth 100000
set_option linter.unusedVariables false

abbrev muLink : Go.Conc.Locks.MuLink := { lock := 72, unlock := 73, ilock := 90, iunlock := 91, lockSlow := 112, unlockSlow := 115, disable := 108, enable := 110, acquire := 111, relMerge := 113, cas32 := 109, add32 := 114, tMutex := 107, tIMutex := 105, tPMutex := 135, tPIMutex := 154, tPI32 := 156, tUP := 158, tNoCopy := 102, tU32 := 103 }
theorem muLib : Go.Conc.Locks.MuLib Tryz.prog muLink :=
  ⟨Tryz.func72, Tryz.func73, Tryz.func90, Tryz.func91, Tryz.func108, Tryz.func110, Tryz.func111, Tryz.func113, Tryz.func109, Tryz.func114, Tryz.underlying105, Tryz.runUnderlying105, Tryz.sizeOf105, Tryz.isAgg105, Tryz.zeroValue105, Tryz.underlying107, Tryz.runUnderlying107, Tryz.sizeOf107, Tryz.isAgg107, Tryz.zeroValue107, Tryz.underlying135, Tryz.runUnderlying135, Tryz.sizeOf135, Tryz.isAgg135, Tryz.zeroValue135, Tryz.underlying154, Tryz.runUnderlying154, Tryz.sizeOf154, Tryz.isAgg154, Tryz.zeroValue154, Tryz.underlying156, Tryz.runUnderlying156, Tryz.sizeOf156, Tryz.isAgg156, Tryz.zeroValue156, Tryz.underlying158, Tryz.runUnderlying158, Tryz.sizeOf158, Tryz.isAgg158, Tryz.zeroValue158, Tryz.underlying102, Tryz.runUnderlying102, Tryz.sizeOf102, Tryz.isAgg102, Tryz.zeroValue102, Tryz.underlying21, Tryz.runUnderlying21, Tryz.sizeOf21, Tryz.isAgg21, Tryz.zeroValue21, (by kernel_rfl)⟩
end Go.Proofs.YtokkigfjabbdaaaGreatDoor

/- The archive, plainly: how long its lists are. No condition. -/
namespace Go.Proofs.YtokkigfjabbdaaaGreatDoor
open Go.RowKit
set_option maxRecDepth 100000
set_option linter.unusedVariables false

theorem recsR_no {xs : List Int} (h : (recsR xs).2 = false) : (recsR xs).1 = [] := by
  unfold recsR at h ⊢
  cases hq : recsF xs (xs.length + 1) 0 with
  | none => rfl
  | some l => rw [hq] at h; cases h
theorem recsA_len (d : PDisk) (h : PHead) : (recsA d h).1.length ≤ h.en.toNat := by
  cases hr : (recsA d h).2
  · unfold recsA at hr ⊢
    rw [recsR_no hr]
    exact Nat.zero_le _
  · obtain ⟨h1, h2⟩ := recsR_back (bytesA_byte d h) hr
    have := flat_pos _ h2
    have hl := bytesA_len d h
    rw [h1] at hl
    rw [← hl]
    unfold recsA
    exact this
theorem body_len {r : PRec} (h : recB r = true) : r.body.size ≤ (recL r).length := by
  simp only [recB, Bool.and_eq_true, Bool.or_eq_true, decide_eq_true_eq, Bool.not_eq_true', Bool.and_eq_false_iff, decide_eq_false_iff_not] at h
  obtain ⟨⟨hk, _⟩, hb⟩ := h
  rcases hk with hk | hk
  · simp only [recL, hk, if_pos, List.length_append, textForm, bs_len]
    omega
  · rcases hb with hb | hb
    · exact absurd hk hb
    · have hb' : r.body = emptyS := Decidable.byContradiction fun e => hb e
      rw [hb']
      exact Nat.zero_le _
theorem flat_mem : ∀ (l : List PRec), ∀ r ∈ l, (recL r).length ≤ (l.flatMap recL).length := by
  intro l
  induction l with
  | nil => intro r hr; cases hr
  | cons x l ih =>
    intro r hr
    rw [List.flatMap_cons, List.length_append]
    rcases List.mem_cons.mp hr with rfl | hr
    · omega
    · have := ih r hr; omega
theorem recsA_size (d : PDisk) (h : PHead) : ∀ r ∈ (recsA d h).1, r.url.size ≤ 60 ∧ r.body.size ≤ h.en.toNat := by
  intro r hr
  cases hq : (recsA d h).2
  · unfold recsA at hq hr
    rw [recsR_no hq] at hr
    cases hr
  · obtain ⟨h1, h2⟩ := recsR_back (bytesA_byte d h) hq
    have hl := bytesA_len d h
    rw [h1] at hl
    have hb := h2 r hr
    have h3 := body_len hb
    have h4 := flat_mem _ r hr
    refine ⟨?_, ?_⟩
    · simp only [recB, urlB, inB, Bool.and_eq_true, decide_eq_true_eq] at hb
      have := hb.1.2.1.2
      omega
    · unfold recsA at h4; omega
theorem idxN_mem : ∀ (rs : List PRec) (out : List (ByteArray × ByteArray)), ∀ p ∈ idxN rs out, p ∈ out ∨ ∃ r ∈ rs, p = (r.url, r.body) := by
  intro rs
  induction rs with
  | nil => intro out p hp; exact .inl hp
  | cons r rs ih =>
    intro out p hp
    rcases ih _ p hp with h | ⟨q, h1, h2⟩
    · rcases insE_mem _ _ p h with ⟨_, h⟩ | ⟨h, _⟩
      · exact .inr ⟨r, List.mem_cons_self .., h⟩
      · exact .inl h
    · exact .inr ⟨q, List.mem_cons_of_mem _ h1, h2⟩
theorem indexA_size (d : PDisk) (h : PHead) : ∀ p ∈ indexA d h, p.1.size ≤ 60 ∧ p.2.size ≤ h.en.toNat := by
  intro p hp
  rcases idxN_mem _ _ p hp with h | ⟨r, h1, rfl⟩
  · cases h
  · exact recsA_size _ _ r h1
theorem indexA_len (d : PDisk) (h : PHead) : (indexA d h).length ≤ h.en.toNat := by
  have h1 := idxN_len (recsA d h).1 []
  have h2 := recsA_len d h
  unfold indexA idxOf
  simp only [List.length_nil] at h1
  omega
theorem fit_index {u : Bool} {d : PDisk} (hd : diskB d = true) {h : PHead} (hh : headB h = true) : ArFit ⟨u, d, h, indexA d h⟩ := by
  have hi := headB_in hh
  have h1 := indexA_len d h
  refine ⟨fit_right hd, ?_, fun p hp => ?_⟩
  · show (indexA d h).length ≤ 1048576; omega
  · have := indexA_size d h p hp; omega
theorem fit_zeroA : ArFit zeroA := ⟨⟨Nat.zero_le _, Nat.zero_le _, (fun s hs => nomatch hs), (fun s hs => nomatch hs)⟩, Nat.zero_le _, (fun p hp => nomatch hp)⟩
theorem headEq_comm (h k : PHead) : headEq h k = headEq k h := by
  cases e : headEq k h with
  | true => rw [headEq_iff.mp e]; exact headEq_self _
  | false =>
    cases e2 : headEq h k with
    | true => rw [headEq_iff.mp e2, headEq_self] at e; cases e
    | false => rfl
/-- What a call answers. -/
def openA (a : PArch) : PArch × Int := if archB a = false then (zeroA, 1) else if a.up = true then (a, 7) else if wellA a.disk = false then (a, 6) else (⟨true, a.disk, nowDk a.disk, indexA a.disk (nowDk a.disk)⟩, 0)
def crashA (a : PArch) : PArch × Int := if archB a = false then (zeroA, 1) else if a.up = false then (a, 2) else (⟨false, a.disk, zeroH, []⟩, 0)
def urlsA (a : PArch) : List ByteArray × Int := if archB a = false then ([], 1) else if a.up = false then ([], 2) else (a.list.map Prod.fst, 0)
theorem fit_openA {a : PArch} (hf : ArFit a) : ArFit (openA a).1 := by
  unfold openA
  split
  · exact fit_zeroA
  · rename_i hb
    split
    · exact hf
    · split
      · exact hf
      · rename_i hw
        have hb : archB a = true := by simpa using hb
        have hw : wellA a.disk = true := by simpa using hw
        simp only [wellA, Bool.and_eq_true] at hw
        exact fit_index (archB_disk hb).1 hw.1
theorem fit_crashA {a : PArch} (hf : ArFit a) : ArFit (crashA a).1 := by
  unfold crashA
  split
  · exact fit_zeroA
  · split
    · exact hf
    · exact ⟨hf.d, Nat.zero_le _, (fun p hp => nomatch hp)⟩
end Go.Proofs.YtokkigfjabbdaaaGreatDoor
