/- What a package-level table holds that a row lists: its cells, in every world that turns nothing of what was there. -/
import Derived.Test.YtggfifchkecnjaaDoorU8
import Derived.Lib.LaidTab
import Derived.MakeChecks
import Derived.Test.YtggfifchkecnjaaDoorU4
import Derived.Test.YtggfifchkecnjaaDoorU6
namespace Go.Proofs.YtggfifchkecnjaaDoor
open Go.RowKit
set_option maxRecDepth 100000
set_option linter.unusedVariables false

/-- The variable at block g holds just the integers 'xs'. -/
structure TabAt (g : Nat) (xs : List Int) (w : World) : Prop where
  cell : ∀ k, k < xs.length → w.cell? ⟨g, k, none⟩ = some (.int .i64 (xs.getD k 0))

theorem TabAt.below {g : Nat} {xs : List Int} {w w' : World} (h : TabAt g xs w) (hb : Below w.heap.size w w') : TabAt g xs w' := ⟨fun k hk => by
  have c := h.cell k hk
  have hlt : g < w.heap.size := by
    by_cases hlt : g < w.heap.size
    · exact hlt
    · exfalso; simp [World.cell?, Array.getElem?_eq_none (Nat.le_of_not_lt hlt)] at c
  exact (hb.cell (p := ⟨g, k, none⟩) hlt).trans c⟩

theorem laidVars_mem {P : Program} {w : World} {n : String} {d : DataW Unit} : ∀ {l : List (String × DataW Unit)} {ps : List MemPlace}, DataW.LaidVars P w l ps → (n, d) ∈ l →
    ∃ g t cs fuel p, P.globalNamed n = some g ∧ (P.globals[g]?).map (·.type) = some t ∧ w.var? P n = some cs ∧ DataW.trod (fun _ => ()) P w 0 (fun _ => true) false fuel t cs.toList = some (d, p)
  | [], _, _, hm => by cases hm
  | (n', d') :: r, _, h, hm => by
    obtain ⟨g, t, cs, fuel, p, q, h1, h2, h3, h4, h5, _⟩ := h
    rcases List.mem_cons.1 hm with e | e
    · cases e
      exact ⟨g, t, cs, fuel, p, h1, h2, h3, h4⟩
    · exact laidVars_mem h5 e

theorem trodVars_len {H : Type} {enc : TypeId × Value → H} {P : Program} {w : World} {sp : Nat → Bool} : ∀ {ns : List String} {gs : List (DataW H)} {ps : List MemPlace}, DataW.TrodVars enc P w sp ns gs ps → gs.length = ns.length
  | [], [], _, _ => rfl
  | [], _ :: _, _, h => h.elim
  | _ :: _, [], _, h => h.elim
  | _ :: ns, _ :: ds, _, ⟨_, _, _, _, _, _, _, _, _, _, h, _⟩ => by simp [trodVars_len h]

/-- From the row's condition to the table's cells. -/
theorem tabAt_of {P : Program} {W : World} {name : String} {zs : List Int} {l : List (String × DataW Unit)} {g : Nat} {t e : TypeId} {n : Nat}
    (hg : P.globalNamed name = some g) (hty : (P.globals[g]?).map (·.type) = some t) (ht : P.underlying t = some (.array n e)) (he : P.underlying e = some (.int .i64)) (hce : P.cellsOf e = 1) (hct : P.cellsOf t = n)
    (h : laidMet P l W) (hm : (name, Lib.tabData .i64 zs) ∈ l) : TabAt g zs W := by
  obtain ⟨ps, hv, _⟩ := h
  obtain ⟨g', t', cs, fuel, p, hg', ht', hvar, hd⟩ := laidVars_mem hv hm
  obtain rfl := Option.some.inj (hg.symm.trans hg')
  obtain rfl := Option.some.inj (hty.symm.trans ht')
  have hT : Lib.TabIs P W name .i64 zs := by
    unfold Lib.TabIs
    rw [hvar, ← Lib.cells_of_tab ht he hce hct hd]
  exact ⟨fun k hk => hT.cell hg k hk⟩

/-- The table of the program's numbers 128 to 159. -/
abbrev Older (w : World) : Prop := TabAt 0 oldPoints w
end Go.Proofs.YtggfifchkecnjaaDoor

/- Contracts of DigitOf, the program's, and of the specification's functions of chapter 2 on one number. No condition. -/
namespace Go.Proofs.YtggfifchkecnjaaDoor
open Go.RowKit
set_option maxRecDepth 100000
set_option linter.unusedVariables false

theorem digitOf_none {x b : Int} (h : b ≠ 10 ∧ b ≠ 16) : digitOf x b = -1 := by unfold digitOf; rw [if_pos h]
theorem digitOf_ten {x : Int} : digitOf x 10 = if inB x 48 57 then x - 48 else -1 := by unfold digitOf; simp
theorem digitOf_hex {x : Int} : digitOf x 16 = if inB x 48 57 then x - 48 else if inB x 65 70 then x - 55 else if inB x 97 102 then x - 87 else -1 := by unfold digitOf; simp

theorem idigit_none (x b : Int) (w : World) (h10 : b ≠ 10) (h16 : b ≠ 16) : Calls Tryd.prog 41 #[.int .i64 x, .int .i64 b] w fun e w' => e = .returned (.int .i64 (digitOf x b)) ∧ Below w.heap.size w w' := by
  rw [digitOf_none ⟨h10, h16⟩]
  have e10 : (b != 10) = true := by simpa using h10
  have e16 : (b != 16) = true := by simpa using h16
  go_enter Tryd.func41, Tryd.ntmps41
  go_wp2
  go_ret
  exact ⟨rfl, Below.refl _ _⟩

set_option maxHeartbeats 2000000 in
set_option maxRecDepth 100000 in
theorem idigit_ten (x : Int) (w : World) : Calls Tryd.prog 41 #[.int .i64 x, .int .i64 10] w fun e w' => e = .returned (.int .i64 (digitOf x 10)) ∧ Below w.heap.size w w' := by
  rw [digitOf_ten]
  have c0 := fun w => k4_any x w
  by_cases h : 48 ≤ x ∧ x ≤ 57
  · rw [inB_yes h.1 h.2] at c0 ⊢
    obtain ⟨h0, h1⟩ := h
    go_enter Tryd.func41, Tryd.ntmps41
    go_wp2_with fail
    go_at_call 44
    refine (pointKinds_any _).mono ?_
    rintro e w1 ⟨rfl, b1⟩
    go_wp2_with fail
    go_at_call 50
    refine (c0 _).mono ?_
    rintro e w2 ⟨rfl, rfl⟩
    go_wp2
    go_ret
    exact ⟨ret_int (by first | omega | (simp; done) | (simp; omega)), b1.alloc b1.size _⟩
  · rw [inB_no (by omega)] at c0 ⊢
    clear h
    go_enter Tryd.func41, Tryd.ntmps41
    go_wp2_with fail
    go_at_call 44
    refine (pointKinds_any _).mono ?_
    rintro e w1 ⟨rfl, b1⟩
    go_wp2_with fail
    go_at_call 50
    refine (c0 _).mono ?_
    rintro e w2 ⟨rfl, rfl⟩
    go_wp2
    go_ret
    exact ⟨rfl, b1.alloc b1.size _⟩

set_option maxHeartbeats 2000000 in
set_option maxRecDepth 100000 in
theorem idigit_hex (x : Int) (w : World) : Calls Tryd.prog 41 #[.int .i64 x, .int .i64 16] w fun e w' => e = .returned (.int .i64 (digitOf x 16)) ∧ Below w.heap.size w w' := by
  rw [digitOf_hex]
  have c0 := fun w => k4_any x w
  have c1 := fun w => k5_any x w
  have c2 := fun w => k6_any x w
  rcases (show (48 ≤ x ∧ x ≤ 57) ∨ (65 ≤ x ∧ x ≤ 70) ∨ (97 ≤ x ∧ x ≤ 102) ∨ ((x < 48 ∨ 57 < x) ∧ (x < 65 ∨ 70 < x) ∧ (x < 97 ∨ 102 < x)) by omega) with h | h | h | h
  · rw [inB_yes h.1 h.2] at c0 ⊢
    obtain ⟨h0, h1⟩ := h
    go_enter Tryd.func41, Tryd.ntmps41
    go_wp2_with fail
    go_at_call 44
    refine (pointKinds_any _).mono ?_
    rintro e w1 ⟨rfl, b1⟩
    go_wp2_with fail
    go_at_call 50
    refine (c0 _).mono ?_
    rintro e w2 ⟨rfl, rfl⟩
    go_wp2
    go_ret
    exact ⟨ret_int (by first | omega | (simp; done) | (simp; omega)), b1.alloc b1.size _⟩
  · rw [inB_no (by omega)] at c0 ⊢
    rw [inB_yes h.1 h.2] at c1 ⊢
    obtain ⟨h0, h1⟩ := h
    go_enter Tryd.func41, Tryd.ntmps41
    go_wp2_with fail
    go_at_call 44
    refine (pointKinds_any _).mono ?_
    rintro e w1 ⟨rfl, b1⟩
    go_wp2_with fail
    go_at_call 50
    refine (c0 _).mono ?_
    rintro e w2 ⟨rfl, rfl⟩
    go_wp2_with fail
    go_at_call 51
    refine (c1 _).mono ?_
    rintro e w2 ⟨rfl, rfl⟩
    go_wp2
    go_ret
    exact ⟨ret_int (by first | omega | (simp; done) | (simp; omega)), b1.alloc b1.size _⟩
  · have n0 := inB_no (x := x) (lo := 48) (hi := 57) (by omega)
    have n1 := inB_no (x := x) (lo := 65) (hi := 70) (by omega)
    rw [n0] at c0 ⊢
    rw [n1] at c1 ⊢
    clear n0 n1
    rw [inB_yes h.1 h.2] at c2 ⊢
    obtain ⟨h0, h1⟩ := h
    go_enter Tryd.func41, Tryd.ntmps41
    go_wp2_with fail
    go_at_call 44
    refine (pointKinds_any _).mono ?_
    rintro e w1 ⟨rfl, b1⟩
    go_wp2_with fail
    go_at_call 50
    refine (c0 _).mono ?_
    rintro e w2 ⟨rfl, rfl⟩
    go_wp2_with fail
    go_at_call 51
    refine (c1 _).mono ?_
    rintro e w2 ⟨rfl, rfl⟩
    go_wp2_with fail
    go_at_call 52
    refine (c2 _).mono ?_
    rintro e w2 ⟨rfl, rfl⟩
    go_wp2
    go_ret
    exact ⟨ret_int (by first | omega | (simp; done) | (simp; omega)), b1.alloc b1.size _⟩
  · obtain ⟨h0, h1, h2⟩ := h
    rw [inB_no h0] at c0 ⊢
    rw [inB_no h1] at c1 ⊢
    rw [inB_no h2] at c2 ⊢
    clear h0 h1 h2
    go_enter Tryd.func41, Tryd.ntmps41
    go_wp2_with fail
    go_at_call 44
    refine (pointKinds_any _).mono ?_
    rintro e w1 ⟨rfl, b1⟩
    go_wp2_with fail
    go_at_call 50
    refine (c0 _).mono ?_
    rintro e w2 ⟨rfl, rfl⟩
    go_wp2_with fail
    go_at_call 51
    refine (c1 _).mono ?_
    rintro e w2 ⟨rfl, rfl⟩
    go_wp2_with fail
    go_at_call 52
    refine (c2 _).mono ?_
    rintro e w2 ⟨rfl, rfl⟩
    go_wp2
    go_ret
    exact ⟨rfl, b1.alloc b1.size _⟩

theorem idigit_any (x b : Int) (w : World) : Calls Tryd.prog 41 #[.int .i64 x, .int .i64 b] w fun e w' => e = .returned (.int .i64 (digitOf x b)) ∧ Below w.heap.size w w' := by
  by_cases h10 : b = 10
  · subst h10; exact idigit_ten x w
  by_cases h16 : b = 16
  · subst h16; exact idigit_hex x w
  exact idigit_none x b w h10 h16
end Go.Proofs.YtggfifchkecnjaaDoor

/- Contracts of the specification's DigitOf. No condition. -/
namespace Go.Proofs.YtggfifchkecnjaaDoor
open Go.RowKit
set_option maxRecDepth 100000
set_option linter.unusedVariables false

end Go.Proofs.YtggfifchkecnjaaDoor

/- Contracts of the specification's functions of chapter 2 on one number. No condition. -/
namespace Go.Proofs.YtggfifchkecnjaaDoor
open Go.RowKit
set_option maxRecDepth 100000
set_option linter.unusedVariables false

end Go.Proofs.YtggfifchkecnjaaDoor

/- Contracts of the specification's functions on references. -/
namespace Go.Proofs.YtggfifchkecnjaaDoor
open Go.RowKit
set_option maxRecDepth 100000
set_option linter.unusedVariables false

def oldCells : Array Value := #[.int .i64 8364, .int .i64 129, .int .i64 8218, .int .i64 402, .int .i64 8222, .int .i64 8230, .int .i64 8224, .int .i64 8225, .int .i64 710, .int .i64 8240, .int .i64 352, .int .i64 8249, .int .i64 338, .int .i64 141, .int .i64 381, .int .i64 143, .int .i64 144, .int .i64 8216, .int .i64 8217, .int .i64 8220, .int .i64 8221, .int .i64 8226, .int .i64 8211, .int .i64 8212, .int .i64 732, .int .i64 8482, .int .i64 353, .int .i64 8250, .int .i64 339, .int .i64 157, .int .i64 382, .int .i64 376]
theorem oldCells_at (k : Nat) (h : k < 32) : oldCells[k]? = some (.int .i64 (oldPoints.getD k 0)) := by
  have e : oldCells.toList = oldPoints.map (Value.int .i64) := rfl
  have : oldCells.toList[k]? = some (.int .i64 (oldPoints.getD k 0)) := by
    rw [e, List.getElem?_map]
    have hl : k < oldPoints.length := h
    simp [List.getD_eq_getElem?_getD, hl]
  simpa using this

end Go.Proofs.YtggfifchkecnjaaDoor

/- The contract of the program's RefNumber, where its table lies as the program's text lays it. -/
namespace Go.Proofs.YtggfifchkecnjaaDoor
open Go.RowKit
set_option maxRecDepth 100000
set_option linter.unusedVariables false

theorem refNumber_any (x : Int) (w : World) (ho : Older w) : Calls Tryd.prog 32 #[.int .i64 x] w fun e w' => e = .returned (.int .i64 (refNumber x)) ∧ w' = w := by
  have c1 := fun w => iok_any x w
  by_cases h0 : x = 0
  · subst h0
    clear ho
    go_enter Tryd.func32, Tryd.ntmps32
    go_wp2
    go_ret
    exact ⟨rfl, rfl⟩
  have e0 : (x == 0) = false := by simpa using h0
  rcases hp : pointOk x with _ | _
  · have hr : refNumber x = 65533 := by unfold refNumber; rw [if_pos (.inr hp)]
    rw [hp] at c1
    rw [hr]
    clear hp hr ho
    go_enter Tryd.func32, Tryd.ntmps32
    go_wp2_with fail
    go_at_call 36
    refine (c1 _).mono ?_
    rintro e w1 ⟨rfl, rfl⟩
    go_wp2
    go_ret
    exact ⟨rfl, rfl⟩
  · rw [hp] at c1
    by_cases h1 : 128 ≤ x ∧ x ≤ 159
    · have hr : refNumber x = oldPoints.getD (x - 128).toNat 0 := by unfold refNumber; rw [if_neg (by simp [h0, hp]), inB_yes h1.1 h1.2]; rfl
      rw [hr]
      obtain ⟨k, rfl⟩ : ∃ k : Nat, x = 128 + k := ⟨(x - 128).toNat, by omega⟩
      have ek : ((128 : Int) + k - 128).toNat = k := by omega
      rw [ek]
      have hk : k < 32 := by omega
      have hc := ho.cell k hk
      obtain ⟨y, hy⟩ : ∃ y, y = oldPoints.getD k 0 := ⟨_, rfl⟩
      rw [← hy] at hc ⊢
      clear hy hp hr h1 ho
      go_enter Tryd.func32, Tryd.ntmps32
      go_wp2_with fail
      go_at_call 36
      refine (c1 _).mono ?_
      rintro e w1 ⟨rfl, rfl⟩
      go_wp2
      go_ret
      exact ⟨rfl, rfl⟩
    · have hr : refNumber x = x := by unfold refNumber; rw [if_neg (by simp [h0, hp]), inB_no (by omega)]; rfl
      rw [hr]
      clear hp hr ho
      go_enter Tryd.func32, Tryd.ntmps32
      go_wp2_with fail
      go_at_call 36
      refine (c1 _).mono ?_
      rintro e w1 ⟨rfl, rfl⟩
      go_wp2
      all_goals
        go_ret
        exact ⟨rfl, rfl⟩
end Go.Proofs.YtggfifchkecnjaaDoor
