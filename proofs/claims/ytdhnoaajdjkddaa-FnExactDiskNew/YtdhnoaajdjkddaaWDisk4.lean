/- The exact law of DiskNew (written by mk/wdisk4.py). -/
import Derived.Test.YtdhnoaajdjkddaaWDisk
import Derived.Test.YtdhnoaajdjkddaaIRepeat
namespace Go.Proofs.Ytdhnoaajdjkddaa
open Go.RowKit
set_option maxRecDepth 100000
set_option linter.unusedVariables false

set_option maxHeartbeats 4000000 in
set_option maxRecDepth 100000 in
theorem fnExactDiskNew_walk (w : World) : Calls Try.prog 6 #[] w fun e w' => e = .returned (.bool true) ∧ Below w.heap.size w w' := by
  have CS := (show Hid (∀ w, Calls Try.prog 26 #[] w fun e w' => ∃ v', e = .returned v' ∧ OwnDk w.heap.size w' v' newDk ∧ Below w.heap.size w w') from fun w => sdiskNew_any w)
  have CI := (show Hid (∀ w, Calls Try.prog 27 #[] w fun e w' => ∃ v', e = .returned v' ∧ OwnDk w.heap.size w' v' newDk ∧ Below w.heap.size w w') from fun w => idiskNew_any w)
  have FQ := (show Hid (DiskFit newDk) from fit_new)
  obtain ⟨qd, hq⟩ : ∃ q, q = newDk := ⟨_, rfl⟩
  rw [← hq] at CS CI FQ
  clear hq
  have fl1 := FQ.out.sl
  have fl2 := FQ.out.ll
  go_enter Try.func6, Try.ntmps6
  have B_w := (show Hid (Below w.heap.size w w) from Below.refl _ _)
  go_wp2_with fail
  go_at_call 26
  refine (CS.out w).mono ?_
  rintro e w3 ⟨v3, rfl, o3, b3⟩
  clear CS
  obtain ⟨aa, an, ac, aA, aN, aC, rfl, o31, o32⟩ := o3
  have B_w3 := (show Hid (Below w.heap.size w w3) from B_w.out.trans (b3.mono B_w.out.size))
  clear B_w b3
  have Ra_w3 := (show Hid (w3.ownsRow w.heap.size 9 1 (.slice aa an ac) qd.safe.length (strCells qd.safe) ∧ w3.ownsRow w.heap.size 37 2 (.slice aA aN aC) qd.late.length (putCells qd.late)) from ⟨o31, o32⟩)
  have AL := (show Hid ((∀ j, (Value.slice aa an ac).ownBlock = some j → j < w3.heap.size) ∧ (∀ j, (Value.slice aA aN aC).ownBlock = some j → j < w3.heap.size)) from ⟨fun j e => (World.ownsRow.lt o31 j e).2, fun j e => (World.ownsRow.lt o32 j e).2⟩)
  clear o31 o32
  obtain ⟨w3a, hw3a⟩ : ∃ x, x = w3.alloc (.cells #[.slice aa an ac, .slice aA aN aC] 27) := ⟨_, rfl⟩
  have bw3a : Below w3.heap.size w3 w3a := by rw [hw3a]; exact (Below.refl _ _).alloc (Nat.le_refl _) _
  have xw3a : w3a.heap[w3.heap.size]? = some (.cells #[.slice aa an ac, .slice aA aN aC] 27 (0, 0)) := by rw [hw3a]; exact World.alloc_heap_new _ _
  have sw3a := bw3a.size
  have Sw3a := (show Hid (w3.heap.size ≤ w3a.heap.size) from sw3a)
  clear sw3a
  have B_w3a := (show Hid (Below w.heap.size w w3a) from B_w3.out.trans (bw3a.mono B_w3.out.size))
  have Ra_w3a := (show Hid (w3a.ownsRow w.heap.size 9 1 (.slice aa an ac) qd.safe.length (strCells qd.safe) ∧ w3a.ownsRow w.heap.size 37 2 (.slice aA aN aC) qd.late.length (putCells qd.late)) from ⟨ownsRow_below Ra_w3.out.1 bw3a, ownsRow_below Ra_w3.out.2 bw3a⟩)
  clear B_w3 Ra_w3 bw3a
  have A_w3a := (show Hid (w3a.heap[w3.heap.size]? = some (.cells #[.slice aa an ac, .slice aA aN aC] 27 (0, 0))) from xw3a)
  clear xw3a
  have SW := (show Hid (w.heap.size ≤ w3a.heap.size) from B_w3a.out.size)
  go_wp2_with fail
  go_at_call 27
  rw [← hw3a]
  refine (CI.out w3a).mono ?_
  rintro e w5 ⟨v5, rfl, o5, b5⟩
  clear hw3a
  obtain ⟨ga, gn, gc, gA, gN, gC, rfl, o51, o52⟩ := o5
  have B_w5 := (show Hid (Below w.heap.size w w5) from B_w3a.out.trans (b5.mono B_w3a.out.size))
  have Ra_w5 := (show Hid (w5.ownsRow w.heap.size 9 1 (.slice aa an ac) qd.safe.length (strCells qd.safe) ∧ w5.ownsRow w.heap.size 37 2 (.slice aA aN aC) qd.late.length (putCells qd.late)) from ⟨ownsRow_below Ra_w3a.out.1 b5, ownsRow_below Ra_w3a.out.2 b5⟩)
  have A_w5 := (show Hid (w5.heap[w3.heap.size]? = some (.cells #[.slice aa an ac, .slice aA aN aC] 27 (0, 0))) from (b5.block _ (lt_of_block A_w3a.out)).trans A_w3a.out)
  clear B_w3a Ra_w3a A_w3a b5
  have Rg_w5 := (show Hid (w5.ownsRow w3a.heap.size 9 1 (.slice ga gn gc) qd.safe.length (strCells qd.safe) ∧ w5.ownsRow w3a.heap.size 37 2 (.slice gA gN gC) qd.late.length (putCells qd.late)) from ⟨o51, o52⟩)
  have GL := (show Hid ((∀ j, (Value.slice ga gn gc).ownBlock = some j → w3a.heap.size ≤ j) ∧ (∀ j, (Value.slice gA gN gC).ownBlock = some j → w3a.heap.size ≤ j)) from ⟨fun j e => (World.ownsRow.lt o51 j e).1, fun j e => (World.ownsRow.lt o52 j e).1⟩)
  clear o51 o52
  obtain ⟨w5a, hw5a⟩ : ∃ x, x = w5.alloc (.cells #[.slice ga gn gc, .slice gA gN gC] 27) := ⟨_, rfl⟩
  have bw5a : Below w5.heap.size w5 w5a := by rw [hw5a]; exact (Below.refl _ _).alloc (Nat.le_refl _) _
  have xw5a : w5a.heap[w5.heap.size]? = some (.cells #[.slice ga gn gc, .slice gA gN gC] 27 (0, 0)) := by rw [hw5a]; exact World.alloc_heap_new _ _
  obtain ⟨oA1, oA2, _, _⟩ := rk_two A_w5.out
  have oA3 := lt_of_block A_w5.out
  have sw5a := bw5a.size
  have Sw5a := (show Hid (w5.heap.size ≤ w5a.heap.size) from sw5a)
  clear sw5a
  have B_w5a := (show Hid (Below w.heap.size w w5a) from B_w5.out.trans (bw5a.mono B_w5.out.size))
  have Ra_w5a := (show Hid (w5a.ownsRow w.heap.size 9 1 (.slice aa an ac) qd.safe.length (strCells qd.safe) ∧ w5a.ownsRow w.heap.size 37 2 (.slice aA aN aC) qd.late.length (putCells qd.late)) from ⟨ownsRow_below Ra_w5.out.1 bw5a, ownsRow_below Ra_w5.out.2 bw5a⟩)
  have A_w5a := (show Hid (w5a.heap[w3.heap.size]? = some (.cells #[.slice aa an ac, .slice aA aN aC] 27 (0, 0))) from (bw5a.block _ (lt_of_block A_w5.out)).trans A_w5.out)
  have Rg_w5a := (show Hid (w5a.ownsRow w3a.heap.size 9 1 (.slice ga gn gc) qd.safe.length (strCells qd.safe) ∧ w5a.ownsRow w3a.heap.size 37 2 (.slice gA gN gC) qd.late.length (putCells qd.late)) from ⟨ownsRow_below Rg_w5.out.1 bw5a, ownsRow_below Rg_w5.out.2 bw5a⟩)
  clear B_w5 Ra_w5 A_w5 Rg_w5 bw5a
  have G_w5a := (show Hid (w5a.heap[w5.heap.size]? = some (.cells #[.slice ga gn gc, .slice gA gN gC] 27 (0, 0))) from xw5a)
  clear xw5a
  go_wp2_with fail
  go_at_call 25
  rw [← hw5a]
  refine (eqDisk_any ⟨_, _, _, _, _, _, rfl, sv_of_own Rg_w5a.out.1, sv_of_own Rg_w5a.out.2⟩ ⟨_, _, _, _, _, _, rfl, sv_of_own Ra_w5a.out.1, sv_of_own Ra_w5a.out.2⟩ FQ.out FQ.out).mono ?_
  rintro e w6 ⟨rfl, bw6⟩
  clear hw5a
  rw [same_dk]
  have B_w6 := (show Hid (Below w.heap.size w w6) from B_w5a.out.trans (bw6.mono B_w5a.out.size))
  have Ra_w6 := (show Hid (w6.ownsRow w.heap.size 9 1 (.slice aa an ac) qd.safe.length (strCells qd.safe) ∧ w6.ownsRow w.heap.size 37 2 (.slice aA aN aC) qd.late.length (putCells qd.late)) from ⟨ownsRow_below Ra_w5a.out.1 bw6, ownsRow_below Ra_w5a.out.2 bw6⟩)
  have A_w6 := (show Hid (w6.heap[w3.heap.size]? = some (.cells #[.slice aa an ac, .slice aA aN aC] 27 (0, 0))) from (bw6.block _ (lt_of_block A_w5a.out)).trans A_w5a.out)
  have Rg_w6 := (show Hid (w6.ownsRow w3a.heap.size 9 1 (.slice ga gn gc) qd.safe.length (strCells qd.safe) ∧ w6.ownsRow w3a.heap.size 37 2 (.slice gA gN gC) qd.late.length (putCells qd.late)) from ⟨ownsRow_below Rg_w5a.out.1 bw6, ownsRow_below Rg_w5a.out.2 bw6⟩)
  have G_w6 := (show Hid (w6.heap[w5.heap.size]? = some (.cells #[.slice ga gn gc, .slice gA gN gC] 27 (0, 0))) from (bw6.block _ (lt_of_block G_w5a.out)).trans G_w5a.out)
  clear B_w5a Ra_w5a A_w5a Rg_w5a G_w5a oA1 oA2 oA3 bw6
  obtain ⟨cA1, cA2, _, _⟩ := rk_two A_w6.out
  obtain ⟨cG1, cG2, _, _⟩ := rk_two G_w6.out
  go_wp2_with fail
  go_at_call 28
  refine (markDisk_any Rg_w6.out.1 Rg_w6.out.2 FQ.out).mono ?_
  rintro e w11 ⟨rfl, mw111, mw112, frw11⟩
  have B_w11 := (show Hid (Below w.heap.size w w11) from B_w6.out.trans (frw11.below B_w6.out.size (fun j e => by have h1 := GL.out.1 j e; have h2 := SW.out; omega) (fun j e => by have h1 := GL.out.2 j e; have h2 := SW.out; omega)))
  have Ra_w11 := (show Hid (w11.ownsRow w.heap.size 9 1 (.slice aa an ac) qd.safe.length (strCells qd.safe) ∧ w11.ownsRow w.heap.size 37 2 (.slice aA aN aC) qd.late.length (putCells qd.late)) from ⟨frw11.row Ra_w6.out.1 (fun j e e2 => by have h1 := AL.out.1 j e; have h2 := GL.out.1 j e2.symm; have h3 := Sw3a.out; omega) (fun j e e2 => by have h1 := AL.out.1 j e; have h2 := GL.out.2 j e2.symm; have h3 := Sw3a.out; omega), frw11.row Ra_w6.out.2 (fun j e e2 => by have h1 := AL.out.2 j e; have h2 := GL.out.1 j e2.symm; have h3 := Sw3a.out; omega) (fun j e e2 => by have h1 := AL.out.2 j e; have h2 := GL.out.2 j e2.symm; have h3 := Sw3a.out; omega)⟩)
  have A_w11 := (show Hid (w11.heap[w3.heap.size]? = some (.cells #[.slice aa an ac, .slice aA aN aC] 27 (0, 0))) from frw11.var Rg_w6.out.1 Rg_w6.out.2 rfl rfl A_w6.out (by decide) (by decide))
  have G_w11 := (show Hid (w11.heap[w5.heap.size]? = some (.cells #[.slice ga gn gc, .slice gA gN gC] 27 (0, 0))) from frw11.var Rg_w6.out.1 Rg_w6.out.2 rfl rfl G_w6.out (by decide) (by decide))
  clear B_w6 Ra_w6 A_w6 G_w6 Rg_w6 cA1 cA2 cG1 cG2
  have Mg_w11 := (show Hid (w11.ownsRow w3a.heap.size 9 1 (.slice ga gn gc) qd.safe.length (strCells (markStrs 1 qd.safe.length)) ∧ w11.ownsRow w3a.heap.size 37 2 (.slice gA gN gC) qd.late.length (putCells (markPuts (1 + qd.safe.length) qd.late.length))) from ⟨mw111, mw112⟩)
  clear mw111 mw112 frw11
  have hk1 : ¬ (1 + (qd.safe.length : Int) + 2 * qd.late.length < 0) := by omega
  have hk2 : ((1 + (qd.safe.length : Int) + 2 * qd.late.length) != (1 + (qd.safe.length : Int) + 2 * qd.late.length)) = false := by simp
  obtain ⟨cA1, cA2, _, _⟩ := rk_two A_w11.out
  obtain ⟨cG1, cG2, _, _⟩ := rk_two G_w11.out
  go_wp2_with fail
  go_at_call 29
  refine (heldDisk_any (sv_of_own Mg_w11.out.1) (sv_of_own Mg_w11.out.2) fl1 fl2).mono ?_
  rintro e w12 ⟨rfl, b12⟩
  have B_w12 := (show Hid (Below w.heap.size w w12) from B_w11.out.trans (b12.mono B_w11.out.size))
  have Ra_w12 := (show Hid (w12.ownsRow w.heap.size 9 1 (.slice aa an ac) qd.safe.length (strCells qd.safe) ∧ w12.ownsRow w.heap.size 37 2 (.slice aA aN aC) qd.late.length (putCells qd.late)) from ⟨ownsRow_below Ra_w11.out.1 b12, ownsRow_below Ra_w11.out.2 b12⟩)
  have A_w12 := (show Hid (w12.heap[w3.heap.size]? = some (.cells #[.slice aa an ac, .slice aA aN aC] 27 (0, 0))) from (b12.block _ (lt_of_block A_w11.out)).trans A_w11.out)
  have G_w12 := (show Hid (w12.heap[w5.heap.size]? = some (.cells #[.slice ga gn gc, .slice gA gN gC] 27 (0, 0))) from (b12.block _ (lt_of_block G_w11.out)).trans G_w11.out)
  have Mg_w12 := (show Hid (w12.ownsRow w3a.heap.size 9 1 (.slice ga gn gc) qd.safe.length (strCells (markStrs 1 qd.safe.length)) ∧ w12.ownsRow w3a.heap.size 37 2 (.slice gA gN gC) qd.late.length (putCells (markPuts (1 + qd.safe.length) qd.late.length))) from ⟨ownsRow_below Mg_w11.out.1 b12, ownsRow_below Mg_w11.out.2 b12⟩)
  clear B_w11 Ra_w11 A_w11 G_w11 Mg_w11 cA1 cA2 cG1 cG2 b12
  obtain ⟨cA1, cA2, _, _⟩ := rk_two A_w12.out
  obtain ⟨cG1, cG2, _, _⟩ := rk_two G_w12.out
  go_wp2_with fail
  go_at_call 27
  refine (CI.out w12).mono ?_
  rintro e w14 ⟨v14, rfl, o14, b14⟩
  obtain ⟨ha, hn, hc, hA, hN, hC, rfl, o141, o142⟩ := o14
  have B_w14 := (show Hid (Below w.heap.size w w14) from B_w12.out.trans (b14.mono B_w12.out.size))
  have Ra_w14 := (show Hid (w14.ownsRow w.heap.size 9 1 (.slice aa an ac) qd.safe.length (strCells qd.safe) ∧ w14.ownsRow w.heap.size 37 2 (.slice aA aN aC) qd.late.length (putCells qd.late)) from ⟨ownsRow_below Ra_w12.out.1 b14, ownsRow_below Ra_w12.out.2 b14⟩)
  have A_w14 := (show Hid (w14.heap[w3.heap.size]? = some (.cells #[.slice aa an ac, .slice aA aN aC] 27 (0, 0))) from (b14.block _ (lt_of_block A_w12.out)).trans A_w12.out)
  have G_w14 := (show Hid (w14.heap[w5.heap.size]? = some (.cells #[.slice ga gn gc, .slice gA gN gC] 27 (0, 0))) from (b14.block _ (lt_of_block G_w12.out)).trans G_w12.out)
  have Mg_w14 := (show Hid (w14.ownsRow w3a.heap.size 9 1 (.slice ga gn gc) qd.safe.length (strCells (markStrs 1 qd.safe.length)) ∧ w14.ownsRow w3a.heap.size 37 2 (.slice gA gN gC) qd.late.length (putCells (markPuts (1 + qd.safe.length) qd.late.length))) from ⟨ownsRow_below Mg_w12.out.1 b14, ownsRow_below Mg_w12.out.2 b14⟩)
  clear B_w12 Ra_w12 A_w12 G_w12 Mg_w12 cA1 cA2 cG1 cG2 b14
  have Rh_w14 := (show Hid (w14.ownsRow w12.heap.size 9 1 (.slice ha hn hc) qd.safe.length (strCells qd.safe) ∧ w14.ownsRow w12.heap.size 37 2 (.slice hA hN hC) qd.late.length (putCells qd.late)) from ⟨o141, o142⟩)
  clear o141 o142
  obtain ⟨w14a, hw14a⟩ : ∃ x, x = w14.alloc (.cells #[.slice ha hn hc, .slice hA hN hC] 27) := ⟨_, rfl⟩
  have bw14a : Below w14.heap.size w14 w14a := by rw [hw14a]; exact (Below.refl _ _).alloc (Nat.le_refl _) _
  have xw14a : w14a.heap[w14.heap.size]? = some (.cells #[.slice ha hn hc, .slice hA hN hC] 27 (0, 0)) := by rw [hw14a]; exact World.alloc_heap_new _ _
  obtain ⟨oA1, oA2, _, _⟩ := rk_two A_w14.out
  have oA3 := lt_of_block A_w14.out
  obtain ⟨oG1, oG2, _, _⟩ := rk_two G_w14.out
  have oG3 := lt_of_block G_w14.out
  have sw14a := bw14a.size
  have Sw14a := (show Hid (w14.heap.size ≤ w14a.heap.size) from sw14a)
  clear sw14a
  have B_w14a := (show Hid (Below w.heap.size w w14a) from B_w14.out.trans (bw14a.mono B_w14.out.size))
  have Ra_w14a := (show Hid (w14a.ownsRow w.heap.size 9 1 (.slice aa an ac) qd.safe.length (strCells qd.safe) ∧ w14a.ownsRow w.heap.size 37 2 (.slice aA aN aC) qd.late.length (putCells qd.late)) from ⟨ownsRow_below Ra_w14.out.1 bw14a, ownsRow_below Ra_w14.out.2 bw14a⟩)
  have A_w14a := (show Hid (w14a.heap[w3.heap.size]? = some (.cells #[.slice aa an ac, .slice aA aN aC] 27 (0, 0))) from (bw14a.block _ (lt_of_block A_w14.out)).trans A_w14.out)
  have G_w14a := (show Hid (w14a.heap[w5.heap.size]? = some (.cells #[.slice ga gn gc, .slice gA gN gC] 27 (0, 0))) from (bw14a.block _ (lt_of_block G_w14.out)).trans G_w14.out)
  have Mg_w14a := (show Hid (w14a.ownsRow w3a.heap.size 9 1 (.slice ga gn gc) qd.safe.length (strCells (markStrs 1 qd.safe.length)) ∧ w14a.ownsRow w3a.heap.size 37 2 (.slice gA gN gC) qd.late.length (putCells (markPuts (1 + qd.safe.length) qd.late.length))) from ⟨ownsRow_below Mg_w14.out.1 bw14a, ownsRow_below Mg_w14.out.2 bw14a⟩)
  have Rh_w14a := (show Hid (w14a.ownsRow w12.heap.size 9 1 (.slice ha hn hc) qd.safe.length (strCells qd.safe) ∧ w14a.ownsRow w12.heap.size 37 2 (.slice hA hN hC) qd.late.length (putCells qd.late)) from ⟨ownsRow_below Rh_w14.out.1 bw14a, ownsRow_below Rh_w14.out.2 bw14a⟩)
  clear B_w14 Ra_w14 A_w14 G_w14 Mg_w14 Rh_w14 bw14a
  have H_w14a := (show Hid (w14a.heap[w14.heap.size]? = some (.cells #[.slice ha hn hc, .slice hA hN hC] 27 (0, 0))) from xw14a)
  clear xw14a
  go_wp2_with fail
  go_at_call 25
  rw [← hw14a]
  refine (eqDisk_any ⟨_, _, _, _, _, _, rfl, sv_of_own Rh_w14a.out.1, sv_of_own Rh_w14a.out.2⟩ ⟨_, _, _, _, _, _, rfl, sv_of_own Ra_w14a.out.1, sv_of_own Ra_w14a.out.2⟩ FQ.out FQ.out).mono ?_
  rintro e w15 ⟨rfl, bw15⟩
  clear hw14a
  rw [same_dk]
  have B_w15 := (show Hid (Below w.heap.size w w15) from B_w14a.out.trans (bw15.mono B_w14a.out.size))
  have Ra_w15 := (show Hid (w15.ownsRow w.heap.size 9 1 (.slice aa an ac) qd.safe.length (strCells qd.safe) ∧ w15.ownsRow w.heap.size 37 2 (.slice aA aN aC) qd.late.length (putCells qd.late)) from ⟨ownsRow_below Ra_w14a.out.1 bw15, ownsRow_below Ra_w14a.out.2 bw15⟩)
  have A_w15 := (show Hid (w15.heap[w3.heap.size]? = some (.cells #[.slice aa an ac, .slice aA aN aC] 27 (0, 0))) from (bw15.block _ (lt_of_block A_w14a.out)).trans A_w14a.out)
  have G_w15 := (show Hid (w15.heap[w5.heap.size]? = some (.cells #[.slice ga gn gc, .slice gA gN gC] 27 (0, 0))) from (bw15.block _ (lt_of_block G_w14a.out)).trans G_w14a.out)
  have Mg_w15 := (show Hid (w15.ownsRow w3a.heap.size 9 1 (.slice ga gn gc) qd.safe.length (strCells (markStrs 1 qd.safe.length)) ∧ w15.ownsRow w3a.heap.size 37 2 (.slice gA gN gC) qd.late.length (putCells (markPuts (1 + qd.safe.length) qd.late.length))) from ⟨ownsRow_below Mg_w14a.out.1 bw15, ownsRow_below Mg_w14a.out.2 bw15⟩)
  have Rh_w15 := (show Hid (w15.ownsRow w12.heap.size 9 1 (.slice ha hn hc) qd.safe.length (strCells qd.safe) ∧ w15.ownsRow w12.heap.size 37 2 (.slice hA hN hC) qd.late.length (putCells qd.late)) from ⟨ownsRow_below Rh_w14a.out.1 bw15, ownsRow_below Rh_w14a.out.2 bw15⟩)
  have H_w15 := (show Hid (w15.heap[w14.heap.size]? = some (.cells #[.slice ha hn hc, .slice hA hN hC] 27 (0, 0))) from (bw15.block _ (lt_of_block H_w14a.out)).trans H_w14a.out)
  clear B_w14a Ra_w14a A_w14a G_w14a Mg_w14a Rh_w14a H_w14a oA1 oA2 oA3 oG1 oG2 oG3 bw15
  obtain ⟨cA1, cA2, _, _⟩ := rk_two A_w15.out
  obtain ⟨cG1, cG2, _, _⟩ := rk_two G_w15.out
  obtain ⟨cH1, cH2, _, _⟩ := rk_two H_w15.out
  go_wp2_with fail
  go_at_call 29
  refine (heldDisk_any (sv_of_own Mg_w15.out.1) (sv_of_own Mg_w15.out.2) fl1 fl2).mono ?_
  rintro e w16 ⟨rfl, b16⟩
  have B_w16 := (show Hid (Below w.heap.size w w16) from B_w15.out.trans (b16.mono B_w15.out.size))
  have Ra_w16 := (show Hid (w16.ownsRow w.heap.size 9 1 (.slice aa an ac) qd.safe.length (strCells qd.safe) ∧ w16.ownsRow w.heap.size 37 2 (.slice aA aN aC) qd.late.length (putCells qd.late)) from ⟨ownsRow_below Ra_w15.out.1 b16, ownsRow_below Ra_w15.out.2 b16⟩)
  have A_w16 := (show Hid (w16.heap[w3.heap.size]? = some (.cells #[.slice aa an ac, .slice aA aN aC] 27 (0, 0))) from (b16.block _ (lt_of_block A_w15.out)).trans A_w15.out)
  have G_w16 := (show Hid (w16.heap[w5.heap.size]? = some (.cells #[.slice ga gn gc, .slice gA gN gC] 27 (0, 0))) from (b16.block _ (lt_of_block G_w15.out)).trans G_w15.out)
  have Mg_w16 := (show Hid (w16.ownsRow w3a.heap.size 9 1 (.slice ga gn gc) qd.safe.length (strCells (markStrs 1 qd.safe.length)) ∧ w16.ownsRow w3a.heap.size 37 2 (.slice gA gN gC) qd.late.length (putCells (markPuts (1 + qd.safe.length) qd.late.length))) from ⟨ownsRow_below Mg_w15.out.1 b16, ownsRow_below Mg_w15.out.2 b16⟩)
  have Rh_w16 := (show Hid (w16.ownsRow w12.heap.size 9 1 (.slice ha hn hc) qd.safe.length (strCells qd.safe) ∧ w16.ownsRow w12.heap.size 37 2 (.slice hA hN hC) qd.late.length (putCells qd.late)) from ⟨ownsRow_below Rh_w15.out.1 b16, ownsRow_below Rh_w15.out.2 b16⟩)
  have H_w16 := (show Hid (w16.heap[w14.heap.size]? = some (.cells #[.slice ha hn hc, .slice hA hN hC] 27 (0, 0))) from (b16.block _ (lt_of_block H_w15.out)).trans H_w15.out)
  clear B_w15 Ra_w15 A_w15 G_w15 Mg_w15 Rh_w15 H_w15 cA1 cA2 cG1 cG2 cH1 cH2 b16
  go_wp2
  go_ret
  exact ⟨rfl, B_w16.out⟩
end Go.Proofs.Ytdhnoaajdjkddaa
