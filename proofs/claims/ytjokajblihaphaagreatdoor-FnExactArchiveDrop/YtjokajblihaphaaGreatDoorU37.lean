/- What the program's one error variable holds, from the row's condition. -/
import Derived.Test.YtjokajblihaphaaGreatDoorU36
import Derived.Stop.LaidErr
import Derived.LaidLaws
import Derived.MakeChecks
import Derived.Test.YtjokajblihaphaaGreatDoorU31
namespace Go.Proofs.YtjokajblihaphaaGreatDoor
open Go.RowKit
set_option maxRecDepth 100000
set_option linter.unusedVariables false

theorem trodVarsS_len {H : Type} {enc : TypeId × Value → H} {P : Program} {w : World} {sp : Nat → Bool} : ∀ {ns : List String} {gs : List (DataW H)} {ps : List MemPlace}, DataW.TrodVars enc P w sp ns gs ps → gs.length = ns.length
  | [], [], _, _ => rfl
  | [], _ :: _, _, h => h.elim
  | _ :: _, [], _, h => h.elim
  | _ :: ns, _ :: ds, _, ⟨_, _, _, _, _, _, _, _, _, _, h, _⟩ => by simp [trodVarsS_len h]
theorem sent_star : "*" ++ "errors.errorString" = "*errors.errorString" := by decide
theorem sent_row (u : TypeId) (h : Tryz.prog.typeName? 3 u = some "*errors.errorString") : u = 349 :=
  typeName_ptr_named (nm := "errors.errorString") (by rw [sent_star]; kernel_rfl) (by kernel_rfl) (by decide) u (by rw [sent_star]; exact h)
theorem sent_of {W : World} {text : List UInt8} {r : List (String × DataW Unit)} (h : laidMet Tryz.prog (("loop.example/g00118/impl.errNoHead", .iface "*errors.errorString" (.ptr (.agg [.lit (.string text)]))) :: r) W) : Sent W := by
  obtain ⟨a, s, hv, _, _, _⟩ := laid_sentinel h (g := 0) (ti := 204) (by kernel_rfl) (by kernel_rfl) Tryz.underlying204 sent_row Tryz.underlying349 Tryz.underlying376 rfl rfl Tryz.underlying9 (by kernel_rfl) (by kernel_rfl)
  exact ⟨a, by simpa using World.var?_cell (g := 0) (by kernel_rfl) hv 0⟩
end Go.Proofs.YtjokajblihaphaaGreatDoor

/- The archive, plainly: how long its lists are. No condition. -/
namespace Go.Proofs.YtjokajblihaphaaGreatDoor
open Go.RowKit
set_option maxRecDepth 100000
set_option linter.unusedVariables false

theorem recsR_no {xs : List Int} (h : (recsR xs).2 = false) : (recsR xs).1 = [] := by
  unfold recsR at h ⊢
  cases hq : recsF xs (xs.length + 1) 0 with
  | none => rfl
  | some l => rw [hq] at h; cases h
theorem recsA_len (d : PDisk) (h : PHead) : (recsA d h).1.length ≤ h.en.toNat := by
  cases hr : (recsA d h).2
  · unfold recsA at hr ⊢
    rw [recsR_no hr]
    exact Nat.zero_le _
  · obtain ⟨h1, h2⟩ := recsR_back (bytesA_byte d h) hr
    have := flat_pos _ h2
    have hl := bytesA_len d h
    rw [h1] at hl
    rw [← hl]
    unfold recsA
    exact this
theorem body_len {r : PRec} (h : recB r = true) : r.body.size ≤ (recL r).length := by
  simp only [recB, Bool.and_eq_true, Bool.or_eq_true, decide_eq_true_eq, Bool.not_eq_true', Bool.and_eq_false_iff, decide_eq_false_iff_not] at h
  obtain ⟨⟨hk, _⟩, hb⟩ := h
  rcases hk with hk | hk
  · simp only [recL, hk, if_pos, List.length_append, textForm, bs_len]
    omega
  · rcases hb with hb | hb
    · exact absurd hk hb
    · have hb' : r.body = emptyS := Decidable.byContradiction fun e => hb e
      rw [hb']
      exact Nat.zero_le _
theorem flat_mem : ∀ (l : List PRec), ∀ r ∈ l, (recL r).length ≤ (l.flatMap recL).length := by
  intro l
  induction l with
  | nil => intro r hr; cases hr
  | cons x l ih =>
    intro r hr
    rw [List.flatMap_cons, List.length_append]
    rcases List.mem_cons.mp hr with rfl | hr
    · omega
    · have := ih r hr; omega
theorem recsA_size (d : PDisk) (h : PHead) : ∀ r ∈ (recsA d h).1, r.url.size ≤ 60 ∧ r.body.size ≤ h.en.toNat := by
  intro r hr
  cases hq : (recsA d h).2
  · unfold recsA at hq hr
    rw [recsR_no hq] at hr
    cases hr
  · obtain ⟨h1, h2⟩ := recsR_back (bytesA_byte d h) hq
    have hl := bytesA_len d h
    rw [h1] at hl
    have hb := h2 r hr
    have h3 := body_len hb
    have h4 := flat_mem _ r hr
    refine ⟨?_, ?_⟩
    · simp only [recB, urlB, inB, Bool.and_eq_true, decide_eq_true_eq] at hb
      have := hb.1.2.1.2
      omega
    · unfold recsA at h4; omega
theorem idxN_mem : ∀ (rs : List PRec) (out : List (ByteArray × ByteArray)), ∀ p ∈ idxN rs out, p ∈ out ∨ ∃ r ∈ rs, p = (r.url, r.body) := by
  intro rs
  induction rs with
  | nil => intro out p hp; exact .inl hp
  | cons r rs ih =>
    intro out p hp
    rcases ih _ p hp with h | ⟨q, h1, h2⟩
    · rcases insE_mem _ _ p h with ⟨_, h⟩ | ⟨h, _⟩
      · exact .inr ⟨r, List.mem_cons_self .., h⟩
      · exact .inl h
    · exact .inr ⟨q, List.mem_cons_of_mem _ h1, h2⟩
theorem indexA_size (d : PDisk) (h : PHead) : ∀ p ∈ indexA d h, p.1.size ≤ 60 ∧ p.2.size ≤ h.en.toNat := by
  intro p hp
  rcases idxN_mem _ _ p hp with h | ⟨r, h1, rfl⟩
  · cases h
  · exact recsA_size _ _ r h1
theorem indexA_len (d : PDisk) (h : PHead) : (indexA d h).length ≤ h.en.toNat := by
  have h1 := idxN_len (recsA d h).1 []
  have h2 := recsA_len d h
  unfold indexA idxOf
  simp only [List.length_nil] at h1
  omega
theorem fit_index {u : Bool} {d : PDisk} (hd : diskB d = true) {h : PHead} (hh : headB h = true) : ArFit ⟨u, d, h, indexA d h⟩ := by
  have hi := headB_in hh
  have h1 := indexA_len d h
  refine ⟨fit_right hd, ?_, fun p hp => ?_⟩
  · show (indexA d h).length ≤ 1048576; omega
  · have := indexA_size d h p hp; omega
theorem fit_zeroA : ArFit zeroA := ⟨⟨Nat.zero_le _, Nat.zero_le _, (fun s hs => nomatch hs), (fun s hs => nomatch hs)⟩, Nat.zero_le _, (fun p hp => nomatch hp)⟩
theorem headEq_comm (h k : PHead) : headEq h k = headEq k h := by
  cases e : headEq k h with
  | true => rw [headEq_iff.mp e]; exact headEq_self _
  | false =>
    cases e2 : headEq h k with
    | true => rw [headEq_iff.mp e2, headEq_self] at e; cases e
    | false => rfl
/-- What a call answers. -/
def openA (a : PArch) : PArch × Int := if archB a = false then (zeroA, 1) else if a.up = true then (a, 7) else if wellA a.disk = false then (a, 6) else (⟨true, a.disk, nowDk a.disk, indexA a.disk (nowDk a.disk)⟩, 0)
def crashA (a : PArch) : PArch × Int := if archB a = false then (zeroA, 1) else if a.up = false then (a, 2) else (⟨false, a.disk, zeroH, []⟩, 0)
def urlsA (a : PArch) : List ByteArray × Int := if archB a = false then ([], 1) else if a.up = false then ([], 2) else (a.list.map Prod.fst, 0)
theorem fit_openA {a : PArch} (hf : ArFit a) : ArFit (openA a).1 := by
  unfold openA
  split
  · exact fit_zeroA
  · rename_i hb
    split
    · exact hf
    · split
      · exact hf
      · rename_i hw
        have hb : archB a = true := by simpa using hb
        have hw : wellA a.disk = true := by simpa using hw
        simp only [wellA, Bool.and_eq_true] at hw
        exact fit_index (archB_disk hb).1 hw.1
theorem fit_crashA {a : PArch} (hf : ArFit a) : ArFit (crashA a).1 := by
  unfold crashA
  split
  · exact fit_zeroA
  · split
    · exact hf
    · exact ⟨hf.d, Nat.zero_le _, (fun p hp => nomatch hp)⟩
end Go.Proofs.YtjokajblihaphaaGreatDoor
