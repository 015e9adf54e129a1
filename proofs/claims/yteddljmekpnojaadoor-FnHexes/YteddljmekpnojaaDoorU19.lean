/- strconv.Itoa: the library's contract, laid by hand at this program; the program's NumText, where the library's table of the powers of ten is as it was laid. -/
import Derived.Shelf.Strconv.Itoa3
import Derived.Test.YteddljmekpnojaaDoorU8
import Derived.Lib.AppendIntMem
import Derived.Test.YteddljmekpnojaaDoorU15
import Derived.Test.YteddljmekpnojaaDoorU18
namespace Go.Proofs.YteddljmekpnojaaDoor
open Go.RowKit Go.Shelf
set_option maxRecDepth 100000
set_option linter.unusedVariables false

def itoaRen : Go.Shelf.Ren := ⟨fun | 129 => 38 | 171 => 24 | 243 => 29 | 246 => 32 | 283 => 33 | 284 => 34 | 285 => 35 | 286 => 36 | 317 => 37 | 318 => 39 | 319 => 40 | 320 => 41 | 337 => 42 | 338 => 43 | n => n, fun | 0 => 0 | 2 => 2 | 3 => 3 | 4 => 4 | 5 => 5 | 9 => 9 | 20 => 20 | 37 => 22 | 46 => 48 | 51 => 60 | 53 => 52 | 171 => 51 | 173 => 55 | 212 => 59 | 213 => 61 | 232 => 64 | 233 => 65 | n => n, fun | 17 => 1 | 18 => 2 | 19 => 3 | n => n⟩
theorem itoaLays : Go.Proofs.LaysM.n171 Tryd.prog itoaRen := {
  mixed := by kernel_rfl
  f129 := Tryd.func38.trans (congrArg some (by kernel_rfl))
  f171 := Tryd.func24.trans (congrArg some (by kernel_rfl))
  f243 := Tryd.func29.trans (congrArg some (by kernel_rfl))
  f246 := Tryd.func32.trans (congrArg some (by kernel_rfl))
  f283 := Tryd.func33.trans (congrArg some (by kernel_rfl))
  f284 := Tryd.func34.trans (congrArg some (by kernel_rfl))
  f285 := Tryd.func35.trans (congrArg some (by kernel_rfl))
  f286 := Tryd.func36.trans (congrArg some (by kernel_rfl))
  f317 := Tryd.func37.trans (congrArg some (by kernel_rfl))
  f318 := Tryd.func39.trans (congrArg some (by kernel_rfl))
  f319 := Tryd.func40.trans (congrArg some (by kernel_rfl))
  f320 := Tryd.func41.trans (congrArg some (by kernel_rfl))
  f337 := Tryd.func42.trans (congrArg some (by kernel_rfl))
  f338 := Tryd.func43.trans (congrArg some (by kernel_rfl))
  t0 := Tryd.underlying0
  a0 := Tryd.isAgg0
  z0 := Tryd.sizeOf0
  v0 := Tryd.zeroValue0
  t2 := Tryd.underlying2
  a2 := Tryd.isAgg2
  z2 := Tryd.sizeOf2
  v2 := Tryd.zeroValue2
  t3 := Tryd.underlying3
  a3 := Tryd.isAgg3
  z3 := Tryd.sizeOf3
  v3 := Tryd.zeroValue3
  t4 := Tryd.underlying4
  a4 := Tryd.isAgg4
  z4 := Tryd.sizeOf4
  v4 := Tryd.zeroValue4
  t5 := Tryd.underlying5
  a5 := Tryd.isAgg5
  z5 := Tryd.sizeOf5
  v5 := Tryd.zeroValue5
  t9 := Tryd.underlying9
  a9 := Tryd.isAgg9
  z9 := Tryd.sizeOf9
  v9 := Tryd.zeroValue9
  t20 := Tryd.underlying20
  a20 := Tryd.isAgg20
  z20 := Tryd.sizeOf20
  v20 := Tryd.zeroValue20
  t37 := Tryd.underlying22
  a37 := Tryd.isAgg22
  z37 := Tryd.sizeOf22
  v37 := Tryd.zeroValue22
  t46 := Tryd.underlying48
  a46 := Tryd.isAgg48
  z46 := Tryd.sizeOf48
  v46 := Tryd.zeroValue48
  t51 := Tryd.underlying60
  a51 := Tryd.isAgg60
  z51 := Tryd.sizeOf60
  v51 := Tryd.zeroValue60
  t53 := Tryd.underlying52
  a53 := Tryd.isAgg52
  z53 := Tryd.sizeOf52
  v53 := Tryd.zeroValue52
  t171 := Tryd.underlying51
  a171 := Tryd.isAgg51
  z171 := Tryd.sizeOf51
  v171 := Tryd.zeroValue51
  t173 := Tryd.underlying55
  a173 := Tryd.isAgg55
  z173 := Tryd.sizeOf55
  v173 := Tryd.zeroValue55
  t212 := Tryd.underlying59
  a212 := Tryd.isAgg59
  z212 := Tryd.sizeOf59
  v212 := Tryd.zeroValue59
  t213 := Tryd.underlying61
  a213 := Tryd.isAgg61
  z213 := Tryd.sizeOf61
  t232 := Tryd.underlying64
  a232 := Tryd.isAgg64
  z232 := Tryd.sizeOf64
  v232 := Tryd.zeroValue64
  t233 := Tryd.underlying65
  a233 := Tryd.isAgg65
  z233 := Tryd.sizeOf65
  v233 := Tryd.zeroValue65
  g17 := by kernel_rfl
  g18 := by kernel_rfl
  g19 := by kernel_rfl
  i0 := by kernel_rfl
  i2 := by kernel_rfl
  i3 := by kernel_rfl
  i4 := by kernel_rfl
  i5 := by kernel_rfl
  i9 := by kernel_rfl
  i20 := by kernel_rfl
  i37 := by kernel_rfl
  i46 := by kernel_rfl
  i51 := by kernel_rfl
  i53 := by kernel_rfl
  i171 := by kernel_rfl
  i173 := by kernel_rfl
  i212 := by kernel_rfl
  i232 := by kernel_rfl
  i233 := by kernel_rfl
  m17 := by kernel_rfl
  m18 := by kernel_rfl
  m19 := by kernel_rfl }

/-- The library's table of the powers of ten is as it was laid. -/
def Pow10 (w : World) : Prop := Lib.TabIs Tryd.prog w "internal/strconv.uint64pow10" .u64 Lib.pow10Tab
theorem Pow10.below {w w' : World} (h : Pow10 w) (hb : Below w.heap.size w w') : Pow10 w' := (Lib.tabBelow_of_tabIs h) w' hb

theorem decDigits_list : ∀ (f u : Nat), 0 < u → u ≤ f → (Lib.decDigits u).map (fun b : UInt8 => (b.toNat : Int)) = digF f u := by
  intro f
  induction f with
  | zero => intro u h0 h1; omega
  | succ f ih =>
    intro u h0 h1
    rw [digF, if_neg (by omega), Lib.decDigits]
    split
    · rename_i h
      have e : digF f (u / 10) = [] := by
        rw [show u / 10 = 0 by omega]; cases f <;> simp [digF]
      rw [e, show u % 10 = u by omega]
      simp
      omega
    · rename_i h
      rw [List.map_append, ih (u / 10) (by omega) (by omega)]
      simp
      omega
theorem itoa_num (n : Int) : (⟨(Lib.itoa n).toArray⟩ : ByteArray) = numS n := by
  have hb : ∀ x ∈ numL n, 0 ≤ x ∧ x ≤ 255 := by
    intro x hx
    unfold numL at hx
    split at hx
    · rw [List.mem_singleton.mp hx]; omega
    · rcases List.mem_append.mp hx with hx | hx
      · split at hx
        · rw [List.mem_singleton.mp hx]; omega
        · cases hx
      · have := digF_byte _ _ x hx; omega
  have e : bs (⟨(Lib.itoa n).toArray⟩ : ByteArray) = numL n := by
    show (Lib.itoa n).toArray.toList.map _ = _
    rw [List.toList_toArray]
    unfold Lib.itoa numL
    by_cases h0 : n = 0
    · subst h0
      rw [if_neg (by omega), if_pos rfl, Lib.decDigits]
      rfl
    · rw [if_neg h0]
      by_cases h1 : n < 0
      · rw [if_pos h1, if_pos h1, List.map_cons, decDigits_list n.natAbs n.natAbs (by omega) (Nat.le_refl _)]
        rfl
      · rw [if_neg h1, if_neg h1, show n.toNat = n.natAbs by omega, decDigits_list n.natAbs n.natAbs (by omega) (Nat.le_refl _)]
        rfl
  have e2 : bs (numS n) = numL n := bs_strOf hb
  rw [← strOf_bs (⟨(Lib.itoa n).toArray⟩ : ByteArray), ← strOf_bs (numS n), e, e2]
theorem inumText_any (n : Int) (w : World) (hn : (Lit.int .i64 n).wf = true) (hp : Pow10 w) : Calls Tryd.prog 12 #[.int .i64 n] w fun e w' => e = .returned (.string (numS n)) ∧ Below w.heap.size w w' := by
  have hb : -9223372036854775808 ≤ n ∧ n ≤ 9223372036854775807 := by
    simp only [Lit.wf, Bool.and_eq_true, decide_eq_true_eq] at hn
    exact hn
  have C := (show Hid (Calls Tryd.prog 24 #[.int .i64 n] w fun e w' => e = .returned (.string (numS n)) ∧ ∃ k os, w' = Sort.grow (w.drewN k) os) from (show Calls _ _ _ _ _ by
    have := Any.strconv_Itoa itoaLays n hb.1 hb.2 w hp
    rw [itoa_num] at this
    exact this))
  go_enter Tryd.func12, Tryd.ntmps12
  go_wp2_with fail
  go_at_call 24
  refine Calls.mono C.out ?_
  rintro e w' ⟨rfl, k, os, ew⟩
  have B := (show Hid (Below w.heap.size w w') from by rw [ew]; exact Lib.below_grow _ w (Nat.le_refl _) k os)
  clear ew C
  go_wp2
  go_ret
  exact ⟨rfl, B.out⟩
end Go.Proofs.YteddljmekpnojaaDoor

/- The exact law of NumText and FnHexes, walked over the landed code, where the library's table of powers is as it was laid. -/
namespace Go.Proofs.YteddljmekpnojaaDoor
open Go.RowKit
set_option maxRecDepth 100000
set_option linter.unusedVariables false
theorem fnExactNumText_walk {n : Int} (w : World) (hp : Pow10 w) (hn : (Lit.int .i64 n).wf = true) :
    Calls Tryd.prog 4 #[.int .i64 n] w fun e w' => e = .returned (.bool true) ∧ Below w.heap.size w w' :=
  fnExactNumText_of w (fun n W h hb => inumText_any n W h (hp.below hb)) hn
theorem fnHexes_walk {v : Value} {xs : List Int} (w : World) (hp : Pow10 w) (h : Sl .u8 w v xs) (hf : ∀ n ∈ xs, (Lit.int .u8 n).wf = true) :
    Calls Tryd.prog 3 #[v] w fun e w' => e = .returned (.bool true) ∧ Below w.heap.size w w' :=
  fnHexes_of (fun s w h => ihexText_any s w h) (fun s w h => ihexBytes_any s w h) w (fun n W h hb => inumText_any n W h (hp.below hb)) h hf
end Go.Proofs.YteddljmekpnojaaDoor
