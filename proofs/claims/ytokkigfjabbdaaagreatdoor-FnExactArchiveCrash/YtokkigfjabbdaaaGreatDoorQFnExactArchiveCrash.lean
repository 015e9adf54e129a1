/- The law FnExactArchiveCrash holds at every input: the call returns true, and its arguments read afterwards as before. -/
import Derived.Test.YtokkigfjabbdaaaGreatDoorRows
import Derived.Test.YtokkigfjabbdaaaGreatDoorU49
import Derived.ProofKit
import Derived.OpenShut
import Derived.ShutString
import Derived.ChangeOld
import Derived.Test.YtokkigfjabbdaaaGreatDoorU34
import Derived.Test.YtokkigfjabbdaaaGreatDoorCards
import Derived.Test.YtokkigfjabbdaaaGreatDoorTie
import Derived.LaidMore
import Derived.OpenVars
import Derived.SevenTiedAt
import Derived.Stop.Joined
namespace Go.Proofs.YtokkigfjabbdaaaGreatDoor.fnExactArchiveCrash
open Go.ChangeShapes Go.WideShapes Go.ChangeAt Go.RowKit
open Go.ChangeMaps (open_string shut_string)
set_option linter.unusedVariables false

theorem own : ownKnob Tryz.prog.godebug = none := by kernel_rfl
theorem laidOut : laidOutB Tryz.prog = true := by kernel_rfl

theorem door_met (os : Os) (args : Array Value) : laidMetH Tryz.prog Rows.fnExactArchiveCrashRow.laid ((World.doorLaid Tryz.prog 400 os).forCall (fun _ _ => 0) ⟨#[], args, []⟩).memory :=
  laidMetH_of_parts3 (fuel := 8) (laidMet_of_run' 8 (by kernel_rfl) (by kernel_rfl)) (by kernel_rfl) (by kernel_rfl)

set_option maxRecDepth 100000 in
theorem lifted (os : Os) (started : os.Started) (H : Type) (enc : TypeId × Value → H) :
    ReturnsInHanded {} Tryz.checked os 5 .any (fun w args => (Rows.fnExactArchiveCrashSpec.pre enc Tryz.prog Tryz.f5 [] false w args ∧ laidMetH Tryz.prog Rows.fnExactArchiveCrashRow.laid w) ∧ sizedMet enc Tryz.prog Tryz.f5 (OpenSpec.ofChange Rows.fnExactArchiveCrashSpec) false w args) (Rows.fnExactArchiveCrashSpec.post enc Tryz.prog Tryz.f5 false true false false) := by
  refine returnsInHanded_of_change_and (C := Tryz.checked) (X := fun w _ => laidMetH Tryz.prog Rows.fnExactArchiveCrashRow.laid w) (fun _ _ _ hh h => h.of_heap hh) own started (by kernel_rfl) Tryz.func5
    (ChangeSpec.witness_shaped (enc := enc) (C := Tryz.checked) (os := os) (X := fun w _ => laidMetH Tryz.prog Rows.fnExactArchiveCrashRow.laid w) false (World.doorLaid Tryz.prog 400 os) #[.agg #[.bool false, .slice none 0 0, .slice none 0 0, .int .i64 0, .int .i64 0, .int .i64 0, .slice none 0 0]] 8 rfl (World.shaped_of_RefB (by kernel_rfl) (by kernel_rfl)) (by kernel_rfl) (by kernel_rfl) (by kernel_rfl) (door_met os _)) ?_
  intro W base args ds gs before hval0 hW hcnd _ hL0 _
  have hval : ∀ (j : Nat) t v, Tryz.f5.params[j]? = some t → args[j]? = some v → Value.okWide Tryz.prog W .any base t v := hval0
  have hW' := hW
  obtain ⟨p, q, hA0, hV, rfl, hfz, hnd⟩ := hW
  have hA : DataW.TrodAll enc Tryz.prog W 0 (fun _ => true) true Tryz.f5.params.toList args.toList ds p := hA0
  rw [Tryz.params5] at hA hval
  obtain ⟨v0, vs0, d0, ds0, p0, q0, hargs, rfl, rfl, h0, r0⟩ := trodAll_cons hA
  obtain ⟨rfl, rfl, rfl⟩ := trodAll_nil r0
  obtain rfl : args = #[v0] := by cases args; simp_all
  have hL : laidMet Tryz.prog Rows.fnExactArchiveCrashRow.laid W := by rw [← MakeChecks.laidMetH_plain _ _ _ (by kernel_rfl)]; exact hL0
  have l0 : Sent W := sent_of hL
  have hV1 := hV
  have hgl : gs.length = 1 := trodVarsS_len hV
  obtain _ | ⟨g0, gs⟩ := gs
  · simp at hgl
  obtain rfl : gs = [] := by simpa using hgl
  obtain ⟨cs0, rfl, _⟩ := okWide_struct Tryz.underlying30 (hval 0 30 v0 rfl rfl)
  have k0 := h0
  have lt0 : ∀ x ∈ p0, x.block < W.heap.size := by obtain ⟨m, hm⟩ := k0; exact DataW.trod_lt m _ _ _ hm
  obtain ⟨z0, y0, y1, y2, y3, y4, y5, y6, e0, w0, f0, g0, m0, n0⟩ : ∃ (a : PArch) (v0 v1 v2 v3 v4 v5 v6 : Value), cs0.toList = [v0, v1, v2, v3, v4, v5, v6] ∧ ArAt W (.agg #[v0, v1, v2, v3, v4, v5, v6]) a ∧ ((Lit.int .i64 a.head.no).wf = true ∧ (Lit.int .i64 a.head.area).wf = true ∧ (Lit.int .i64 a.head.en).wf = true) ∧ (∀ s ∈ a.disk.safe, s.size ≤ maxLen) ∧ (∀ p ∈ a.disk.late, p.2.size ≤ maxLen) ∧ (∀ p ∈ a.list, p.1.size ≤ maxLen ∧ p.2.size ≤ maxLen) := by
    obtain ⟨fuel, hf⟩ := h0
    exact trod_arch Tryz.underlying30 (by kernel_rfl) (by kernel_rfl) (by kernel_rfl) (by kernel_rfl) (by kernel_rfl) (by kernel_rfl) rfl rfl rfl rfl
      (fun m cs y hy => trod_disk (es := 9) (ep := 121) Tryz.underlying25 (by kernel_rfl) (by kernel_rfl) (by kernel_rfl) (by kernel_rfl) (by kernel_rfl) rfl rfl Tryz.underlying9 (by kernel_rfl) Tryz.underlying121 (by kernel_rfl) (by kernel_rfl) (by kernel_rfl) (by kernel_rfl) (by kernel_rfl) rfl rfl hy)
      (fun m cs y hy => trod_head Tryz.underlying27 (by kernel_rfl) (by kernel_rfl) (by kernel_rfl) (by kernel_rfl) (by kernel_rfl) (by kernel_rfl) (by kernel_rfl) rfl rfl rfl hy)
      (fun m v y hy => trod_ents Tryz.underlying28 Tryz.underlying85 (by kernel_rfl) (by kernel_rfl) (by kernel_rfl) (by kernel_rfl) (by kernel_rfl) rfl rfl hy) hf
  obtain rfl : cs0 = #[y0, y1, y2, y3, y4, y5, y6] := by cases cs0; simp_all
  clear hA0 hval0
  refine (fnExactArchiveCrash_walk W l0 w0 f0 g0 m0 n0).mono fun e W' ⟨he, bel⟩ => ?_
  subst he
  exact ⟨_, rfl, _, _, _, [], _, _, hW', trodAll_mk1 (shut_bool Tryz.underlying4 _), (trodAll_cons_mk (Below.trod laidOut (by kernel_rfl) (of_decide_eq_true (by kernel_rfl)) k0 bel lt0) trodAll_mk0), Below.trodVars laidOut bel (by kernel_rfl) hV1, bel.frame _, fun h => by cases h⟩

theorem over : Rows.fnExactArchiveCrashRow.holds Tryz.pinned (OpenSpec.ofChange Rows.fnExactArchiveCrashSpec) :=
  OpenClaim.holds_of_wide 5 Tryz.f5 rfl rfl rfl rfl rfl rfl rfl ⟨rfl, rfl, rfl, rfl, rfl⟩ rfl rfl rfl rfl rfl (by kernel_rfl) Tryz.func5 (by kernel_rfl)
    (of_decide_eq_true (by kernel_rfl)) (by unfold Func.isWrapper; first | (rw [if_pos (by decide +kernel)]; kernel_rfl) | (rw [if_neg (by decide +kernel)]; exact ⟨rfl, rfl⟩))
    (fun os started H enc _ => lifted os started H enc)
end Go.Proofs.YtokkigfjabbdaaaGreatDoor.fnExactArchiveCrash

namespace Go.Proofs.YtokkigfjabbdaaaGreatDoor
theorem fnExactArchiveCrash_card : Rows.FnExactArchiveCrashCardSaid :=
  Claim7.holds_tied_plain_at .later [] [.sentinel] true Rows.fnExactArchiveCrashCard.stood.harness true
    fnExactArchiveCrash.over (fun _ h => by cases h) (by kernel_rfl) (fun _ h => by cases h) fnExactArchiveCrash_row_tie rfl ⟨rfl, rfl⟩ (by kernel_rfl) rfl
    (fun f fn hf hfn => by
      obtain rfl : f = 5 := Option.some.inj ((show Tryz.prog.funcNamed "loop.example/g00118/laws.FnExactArchiveCrash" = some 5 by kernel_rfl).symm.trans hf) |>.symm
      obtain rfl : fn = Tryz.f5 := (Option.some.inj (Tryz.func5.symm.trans hfn)).symm
      exact ⟨by kernel_rfl, fun j t ht => by
        rw [Tryz.params5] at ht
        have hm : t ∈ [30] := by simpa using Array.mem_of_getElem? ht
        have hall : ([30].all fun u => !Tryz.prog.wantsStandIn u) = true := by kernel_rfl
        exact (show Tryz.prog.wantsStandIn t = false by simpa using List.all_eq_true.1 hall t hm)⟩)
    (by kernel_rfl)
#print axioms fnExactArchiveCrash_card
end Go.Proofs.YtokkigfjabbdaaaGreatDoor
