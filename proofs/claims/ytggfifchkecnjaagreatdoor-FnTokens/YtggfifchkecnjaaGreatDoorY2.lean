/- A rule for a scope in which the run jumps among four labels: what holds at each label, and a measure that every pass lowers. No condition. -/
import Derived.WalkKit
import Derived.Scope
import Derived.ScopeJumps
import Derived.WalkMore
import Derived.Test.YtggfifchkecnjaaGreatDoorRows
import Derived.Test.YtggfifchkecnjaaGreatDoorY1
namespace Go.Proofs.YtggfifchkecnjaaGreatDoor

def jumps (J : Nat → Act → World → Prop) (Q : Exit → Act → World → Prop) : Exit → Act → World → Prop
  | .goto l, a, w => J l a w
  | .normal, a, w => Q .normal a w
  | .exit i, a, w => Q (.exit i) a w
  | .ret, a, w => Q .ret a w
  | .panic c, a, w => Q (.panic c) a w
  | .outgrown, a, w => Q .outgrown a w

section
variable {J : Nat → Act → World → Prop} {Q : Exit → Act → World → Prop} {a : Act} {w : World}
theorem jumps_ret : jumps J Q .ret a w = Q .ret a w := rfl
end

def lower (J : Nat → Act → World → Prop) (m : Nat → Act → World → Nat) (M : Nat) : Nat → Act → World → Prop := fun l a w => J l a w ∧ m l a w < M

theorem wp_weaken {P : Program} {c : Code} {Q Q' : Exit → Act → World → Prop} {a : Act} {w : World} (h : c.wp P Q a w) (hq : ∀ e a w, Q e a w → Q' e a w) : c.wp P Q' a w := by
  intro b k cs
  obtain ⟨e, a', w', q, arr⟩ := h b k cs
  exact ⟨e, a', w', hq _ _ _ q, arr⟩

theorem jumps_mono {J J' : Nat → Act → World → Prop} {Q : Exit → Act → World → Prop} (h : ∀ l a w, J l a w → J' l a w) (e : Exit) (a : Act) (w : World) (q : jumps J Q e a w) : jumps J' Q e a w := by
  cases e <;> first | exact h _ _ _ q | exact q

theorem wp_scope_many {P : Program} {Q : Exit → Act → World → Prop} {a : Act} {w : World} {c : Code} (J : Nat → Act → World → Prop) (m : Nat → Act → World → Nat) (rest : Nat → Code)
    (hf : ∀ l a w, J l a w → findLabel c l = some (rest l)) (first : c.wp P (jumps J Q) a w)
    (pass : ∀ l a w, J l a w → (rest l).wp P (jumps (lower J m (m l a w)) Q) a w) : (Code.scope c).wp P Q a w := by
  intro b k cs
  have hg : ∀ l a w, J l a w → gotoIn l (.inScope c :: k) = some (.code (rest l) :: .inScope c :: k) := fun l a w h => by simp [gotoIn, hf l a w h]
  have key : ∀ n l a w, m l a w = n → J l a w → ∃ e a' w', Q e a' w' ∧ Arrives P (lone (b.at a (.code (rest l) :: .inScope c :: k)) cs w) b k cs e a' w' := by
    intro n
    induction n using Nat.strongRecOn with
    | _ n ih =>
      intro l a w hn hJ
      obtain ⟨e, a₁, w₁, hq, harr⟩ := pass l a w hJ b (.inScope c :: k) cs
      cases e with
      | normal => exact ⟨.normal, a₁, w₁, hq, Steps.trans harr (.one step_inScope)⟩
      | exit id => exact ⟨.exit id, a₁, w₁, hq, fun k' hk => harr k' (by simp [exitTo, hk])⟩
      | goto l' =>
        obtain ⟨hJ', hlt⟩ := hq
        obtain ⟨e₂, a₂, w₂, hq₂, harr₂⟩ := ih _ (by omega) l' a₁ w₁ rfl hJ'
        exact ⟨e₂, a₂, w₂, hq₂, .of_steps (harr _ (hg _ _ _ hJ')) harr₂⟩
      | ret => exact ⟨_, a₁, w₁, hq, harr⟩
      | panic ch => exact ⟨_, a₁, w₁, hq, harr⟩
      | outgrown => exact ⟨_, a₁, w₁, hq, harr⟩
  obtain ⟨e, a₁, w₁, hq, harr⟩ := first b (.inScope c :: k) cs
  cases e with
  | normal => exact ⟨.normal, a₁, w₁, hq, .head step_scope (Steps.trans harr (.one step_inScope))⟩
  | exit id => exact ⟨.exit id, a₁, w₁, hq, fun k' hk => .head step_scope (harr k' (by simp [exitTo, hk]))⟩
  | goto l' =>
    obtain ⟨e₂, a₂, w₂, hq₂, harr₂⟩ := key _ l' a₁ w₁ rfl hq
    exact ⟨e₂, a₂, w₂, hq₂, .of_steps (.head step_scope (harr _ (hg _ _ _ hq))) harr₂⟩
  | ret => exact ⟨_, a₁, w₁, hq, .of_steps (.one step_scope) harr⟩
  | panic ch => exact ⟨_, a₁, w₁, hq, .of_steps (.one step_scope) harr⟩
  | outgrown => exact ⟨_, a₁, w₁, hq, .of_steps (.one step_scope) harr⟩

theorem wp_after_skip {P : Program} {Q : Exit → Act → World → Prop} {a : Act} {w : World} {s : Code} (h : s.wp P Q a w) : (Code.skip.seq s).wp P Q a w := by
  apply wp_seq
  apply wp_skip
  exact h

theorem wp_scope_four {P : Program} {Q : Exit → Act → World → Prop} {a : Act} {w : World} {c s0 s1 s2 s3 : Code} (J : Nat → Act → World → Prop) (m : Nat → Act → World → Nat)
    (h0 : findLabel c 0 = some (Code.skip.seq s0)) (h1 : findLabel c 1 = some (Code.skip.seq s1)) (h2 : findLabel c 2 = some (Code.skip.seq s2)) (h3 : findLabel c 3 = some (Code.skip.seq s3))
    (hJ : ∀ l a w, J l a w → l < 4)
    (first : (∀ a w, J 0 a w → s0.wp P (jumps J Q) a w) → c.wp P (jumps J Q) a w)
    (pass1 : ∀ M a w, J 1 a w → m 1 a w ≤ M → s1.wp P (jumps (lower J m M) Q) a w)
    (pass2 : ∀ M, (∀ a w, J 1 a w → m 1 a w ≤ M → s1.wp P (jumps (lower J m M) Q) a w) → ∀ a w, J 2 a w → m 2 a w ≤ M → s2.wp P (jumps (lower J m M) Q) a w)
    (pass3 : ∀ M a w, J 3 a w → m 3 a w ≤ M → s3.wp P (jumps (lower J m M) Q) a w)
    (pass0 : ∀ M, (∀ a w, J 3 a w → m 3 a w ≤ M → s3.wp P (jumps (lower J m M) Q) a w) → ∀ a w, J 0 a w → m 0 a w ≤ M → s0.wp P (jumps (lower J m M) Q) a w) : (Code.scope c).wp P Q a w := by
  refine wp_scope_many J m (fun l => match l with | 0 => Code.skip.seq s0 | 1 => Code.skip.seq s1 | 2 => Code.skip.seq s2 | _ => Code.skip.seq s3) ?_ ?_ ?_
  · intro l a w h
    have := hJ l a w h
    match l, this with
    | 0, _ => exact h0
    | 1, _ => exact h1
    | 2, _ => exact h2
    | 3, _ => exact h3
  · exact first (fun a w h => wp_weaken (pass0 _ (pass3 _) a w h (Nat.le_refl _)) (jumps_mono fun l a w hl => hl.1))
  · intro l a w h
    have := hJ l a w h
    match l, this with
    | 0, _ => exact wp_after_skip (pass0 _ (pass3 _) a w h (Nat.le_refl _))
    | 1, _ => exact wp_after_skip (pass1 _ a w h (Nat.le_refl _))
    | 2, _ => exact wp_after_skip (pass2 _ (pass1 _) a w h (Nat.le_refl _))
    | 3, _ => exact wp_after_skip (pass3 _ a w h (Nat.le_refl _))

theorem frame_arr (t : Array Value) (n : Nat) (h : t.size = n) : t = ((List.range n).map (fun i => t.getD i undef)).toArray := by
  apply Array.ext
  · simp [h]
  · intro i h1 h2
    simp [Array.getD, h1]
end Go.Proofs.YtggfifchkecnjaaGreatDoor

/- The contract of the specification's small question whether a number lies between two bounds. No condition. -/
namespace Go.Proofs.YtggfifchkecnjaaGreatDoor
open Go.RowKit
set_option maxRecDepth 100000
set_option linter.unusedVariables false

def inB (x lo hi : Int) : Bool := decide (lo ≤ x) && decide (x ≤ hi)
theorem inB_yes {x lo hi : Int} (h : lo ≤ x) (h' : x ≤ hi) : inB x lo hi = true := by simp [inB, h, h']
theorem inB_no {x lo hi : Int} (h : x < lo ∨ hi < x) : inB x lo hi = false := by
  rcases h with h | h
  · simp [inB]; omega
  · simp [inB]; omega

theorem l1In_any (x lo hi : Int) (w : World) : Calls Tryz.prog 42 #[.int .i64 x, .int .i64 lo, .int .i64 hi] w fun e w' => e = .returned (.bool (inB x lo hi)) ∧ w' = w := by
  rcases (show x < lo ∨ (lo ≤ x ∧ hi < x) ∨ (lo ≤ x ∧ x ≤ hi) by omega) with h | ⟨h, h'⟩ | ⟨h, h'⟩
  · rw [inB_no (.inl h)]
    go_enter Tryz.func42, Tryz.ntmps42
    go_wp2
    go_ret
    exact ⟨rfl, rfl⟩
  · rw [inB_no (.inr h')]
    go_enter Tryz.func42, Tryz.ntmps42
    go_wp2
    go_ret
    exact ⟨ret_bool (by first | (simp; done) | (simp; omega)), rfl⟩
  · rw [inB_yes h h']
    go_enter Tryz.func42, Tryz.ntmps42
    go_wp2
    go_ret
    exact ⟨ret_bool (by first | (simp; done) | (simp; omega)), rfl⟩
end Go.Proofs.YtggfifchkecnjaaGreatDoor

/- Contracts of the small functions of the laws' package (copies, comparisons, marks of slices of bytes), for every slice of up to 2^40 of them. -/
namespace Go.Proofs.YtggfifchkecnjaaGreatDoor
open Go.RowKit
set_option maxRecDepth 100000
set_option linter.unusedVariables false

theorem Tryz.infoB : (Tryz.prog.info? 5).map (fun i => (i.zero, i.size, i.bytes)) = some (some (.int .u8 0), 1, 1) := by kernel_rfl

end Go.Proofs.YtggfifchkecnjaaGreatDoor
