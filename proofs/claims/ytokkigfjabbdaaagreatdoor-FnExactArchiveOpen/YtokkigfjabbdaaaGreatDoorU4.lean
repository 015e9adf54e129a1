/- A rule for a scope in which the run jumps among four labels: what holds at each label, and a measure that every pass lowers. No condition. -/
import Derived.WalkKit
import Derived.Scope
import Derived.ScopeJumps
import Derived.WalkMore
import Derived.Test.YtokkigfjabbdaaaGreatDoorU0
import Derived.Test.YtokkigfjabbdaaaGreatDoorU1
import Derived.Test.YtokkigfjabbdaaaGreatDoorU3
import Derived.Test.YtokkigfjabbdaaaGreatDoorRows
import Derived.Test.YtokkigfjabbdaaaGreatDoorU2
namespace Go.Proofs.YtokkigfjabbdaaaGreatDoor

/-- As Q; by a goto to label l: J l. -/
def jumps (J : Nat → Act → World → Prop) (Q : Exit → Act → World → Prop) : Exit → Act → World → Prop
  | .goto l, a, w => J l a w
  | .normal, a, w => Q .normal a w
  | .exit i, a, w => Q (.exit i) a w
  | .ret, a, w => Q .ret a w
  | .panic c, a, w => Q (.panic c) a w
  | .outgrown, a, w => Q .outgrown a w

section
variable {J : Nat → Act → World → Prop} {Q : Exit → Act → World → Prop} {a : Act} {w : World}
theorem jumps_goto (l : Nat) : jumps J Q (.goto l) a w = J l a w := rfl
theorem jumps_ret : jumps J Q .ret a w = Q .ret a w := rfl
theorem jumps_panic (c : List PanicEntry) : jumps J Q (.panic c) a w = Q (.panic c) a w := rfl
end

/-- .. and the measure is below M. -/
def lower (J : Nat → Act → World → Prop) (m : Nat → Act → World → Nat) (M : Nat) : Nat → Act → World → Prop := fun l a w => J l a w ∧ m l a w < M

theorem wp_weaken {P : Program} {c : Code} {Q Q' : Exit → Act → World → Prop} {a : Act} {w : World} (h : c.wp P Q a w) (hq : ∀ e a w, Q e a w → Q' e a w) : c.wp P Q' a w := by
  intro b k cs
  obtain ⟨e, a', w', q, arr⟩ := h b k cs
  exact ⟨e, a', w', hq _ _ _ q, arr⟩

theorem jumps_mono {J J' : Nat → Act → World → Prop} {Q : Exit → Act → World → Prop} (h : ∀ l a w, J l a w → J' l a w) (e : Exit) (a : Act) (w : World) (q : jumps J Q e a w) : jumps J' Q e a w := by
  cases e <;> first | exact h _ _ _ q | exact q

theorem wp_scope_many {P : Program} {Q : Exit → Act → World → Prop} {a : Act} {w : World} {c : Code} (J : Nat → Act → World → Prop) (m : Nat → Act → World → Nat) (rest : Nat → Code)
    (hf : ∀ l a w, J l a w → findLabel c l = some (rest l)) (first : c.wp P (jumps J Q) a w)
    (pass : ∀ l a w, J l a w → (rest l).wp P (jumps (lower J m (m l a w)) Q) a w) : (Code.scope c).wp P Q a w := by
  intro b k cs
  have hg : ∀ l a w, J l a w → gotoIn l (.inScope c :: k) = some (.code (rest l) :: .inScope c :: k) := fun l a w h => by simp [gotoIn, hf l a w h]
  have key : ∀ n l a w, m l a w = n → J l a w → ∃ e a' w', Q e a' w' ∧ Arrives P (lone (b.at a (.code (rest l) :: .inScope c :: k)) cs w) b k cs e a' w' := by
    intro n
    induction n using Nat.strongRecOn with
    | _ n ih =>
      intro l a w hn hJ
      obtain ⟨e, a₁, w₁, hq, harr⟩ := pass l a w hJ b (.inScope c :: k) cs
      cases e with
      | normal => exact ⟨.normal, a₁, w₁, hq, Steps.trans harr (.one step_inScope)⟩
      | exit id => exact ⟨.exit id, a₁, w₁, hq, fun k' hk => harr k' (by simp [exitTo, hk])⟩
      | goto l' =>
        obtain ⟨hJ', hlt⟩ := hq
        obtain ⟨e₂, a₂, w₂, hq₂, harr₂⟩ := ih _ (by omega) l' a₁ w₁ rfl hJ'
        exact ⟨e₂, a₂, w₂, hq₂, .of_steps (harr _ (hg _ _ _ hJ')) harr₂⟩
      | ret => exact ⟨_, a₁, w₁, hq, harr⟩
      | panic ch => exact ⟨_, a₁, w₁, hq, harr⟩
      | outgrown => exact ⟨_, a₁, w₁, hq, harr⟩
  obtain ⟨e, a₁, w₁, hq, harr⟩ := first b (.inScope c :: k) cs
  cases e with
  | normal => exact ⟨.normal, a₁, w₁, hq, .head step_scope (Steps.trans harr (.one step_inScope))⟩
  | exit id => exact ⟨.exit id, a₁, w₁, hq, fun k' hk => .head step_scope (harr k' (by simp [exitTo, hk]))⟩
  | goto l' =>
    obtain ⟨e₂, a₂, w₂, hq₂, harr₂⟩ := key _ l' a₁ w₁ rfl hq
    exact ⟨e₂, a₂, w₂, hq₂, .of_steps (.head step_scope (harr _ (hg _ _ _ hq))) harr₂⟩
  | ret => exact ⟨_, a₁, w₁, hq, .of_steps (.one step_scope) harr⟩
  | panic ch => exact ⟨_, a₁, w₁, hq, .of_steps (.one step_scope) harr⟩
  | outgrown => exact ⟨_, a₁, w₁, hq, .of_steps (.one step_scope) harr⟩

theorem wp_after_skip {P : Program} {Q : Exit → Act → World → Prop} {a : Act} {w : World} {s : Code} (h : s.wp P Q a w) : (Code.skip.seq s).wp P Q a w := by
  apply wp_seq
  apply wp_skip
  exact h

/-- Four labels: 0 falls into 3, 2 falls into 1. -/
theorem wp_scope_four {P : Program} {Q : Exit → Act → World → Prop} {a : Act} {w : World} {c s0 s1 s2 s3 : Code} (J : Nat → Act → World → Prop) (m : Nat → Act → World → Nat)
    (h0 : findLabel c 0 = some (Code.skip.seq s0)) (h1 : findLabel c 1 = some (Code.skip.seq s1)) (h2 : findLabel c 2 = some (Code.skip.seq s2)) (h3 : findLabel c 3 = some (Code.skip.seq s3))
    (hJ : ∀ l a w, J l a w → l < 4)
    (first : (∀ a w, J 0 a w → s0.wp P (jumps J Q) a w) → c.wp P (jumps J Q) a w)
    (pass1 : ∀ M a w, J 1 a w → m 1 a w ≤ M → s1.wp P (jumps (lower J m M) Q) a w)
    (pass2 : ∀ M, (∀ a w, J 1 a w → m 1 a w ≤ M → s1.wp P (jumps (lower J m M) Q) a w) → ∀ a w, J 2 a w → m 2 a w ≤ M → s2.wp P (jumps (lower J m M) Q) a w)
    (pass3 : ∀ M a w, J 3 a w → m 3 a w ≤ M → s3.wp P (jumps (lower J m M) Q) a w)
    (pass0 : ∀ M, (∀ a w, J 3 a w → m 3 a w ≤ M → s3.wp P (jumps (lower J m M) Q) a w) → ∀ a w, J 0 a w → m 0 a w ≤ M → s0.wp P (jumps (lower J m M) Q) a w) : (Code.scope c).wp P Q a w := by
  refine wp_scope_many J m (fun l => match l with | 0 => Code.skip.seq s0 | 1 => Code.skip.seq s1 | 2 => Code.skip.seq s2 | _ => Code.skip.seq s3) ?_ ?_ ?_
  · intro l a w h
    have := hJ l a w h
    match l, this with
    | 0, _ => exact h0
    | 1, _ => exact h1
    | 2, _ => exact h2
    | 3, _ => exact h3
  · exact first (fun a w h => wp_weaken (pass0 _ (pass3 _) a w h (Nat.le_refl _)) (jumps_mono fun l a w hl => hl.1))
  · intro l a w h
    have := hJ l a w h
    match l, this with
    | 0, _ => exact wp_after_skip (pass0 _ (pass3 _) a w h (Nat.le_refl _))
    | 1, _ => exact wp_after_skip (pass1 _ a w h (Nat.le_refl _))
    | 2, _ => exact wp_after_skip (pass2 _ (pass1 _) a w h (Nat.le_refl _))
    | 3, _ => exact wp_after_skip (pass3 _ a w h (Nat.le_refl _))

/-- A frame of n slots, written out by its slots. -/
theorem frame_arr (t : Array Value) (n : Nat) (h : t.size = n) : t = ((List.range n).map (fun i => t.getD i undef)).toArray := by
  apply Array.ext
  · simp [h]
  · intro i h1 h2
    simp [Array.getD, h1]
end Go.Proofs.YtokkigfjabbdaaaGreatDoor

/- The contract of readPoints: it reads from bytes the points that the plain function 'dec' tells, into a room that is long enough. -/
namespace Go.Proofs.YtokkigfjabbdaaaGreatDoor
open Go.RowKit
set_option maxRecDepth 100000
set_option linter.unusedVariables false

/-- The frame of readPoints: its twelve first slots. -/
structure RdFrame (v0 v1 s5 s6 s7 s8 s9 s10 s11 : Value) (act : Act) : Prop where
  size : act.tmps.size = 104
  defers : act.defers = []
  h0 : act.tmps.getD 0 undef = v0
  h1 : act.tmps.getD 1 undef = v1
  h2 : act.tmps.getD 2 undef = undef
  h3 : act.tmps.getD 3 undef = undef
  h4 : act.tmps.getD 4 undef = .int .i64 0
  h5 : act.tmps.getD 5 undef = s5
  h6 : act.tmps.getD 6 undef = s6
  h7 : act.tmps.getD 7 undef = s7
  h8 : act.tmps.getD 8 undef = s8
  h9 : act.tmps.getD 9 undef = s9
  h10 : act.tmps.getD 10 undef = s10
  h11 : act.tmps.getD 11 undef = s11

theorem RdFrame.lit {v0 v1 s5 s6 s7 s8 s9 s10 s11 : Value} {act : Act} (h : RdFrame v0 v1 s5 s6 s7 s8 s9 s10 s11 act) :
    ∃ u : Nat → Value, act = { tmps := #[v0, v1, undef, undef, .int .i64 0, s5, s6, s7, s8, s9, s10, s11, u 12, u 13, u 14, u 15, u 16, u 17, u 18, u 19, u 20, u 21, u 22, u 23, u 24, u 25, u 26, u 27, u 28, u 29, u 30, u 31, u 32, u 33, u 34, u 35, u 36, u 37, u 38, u 39, u 40, u 41, u 42, u 43, u 44, u 45, u 46, u 47, u 48, u 49, u 50, u 51, u 52, u 53, u 54, u 55, u 56, u 57, u 58, u 59, u 60, u 61, u 62, u 63, u 64, u 65, u 66, u 67, u 68, u 69, u 70, u 71, u 72, u 73, u 74, u 75, u 76, u 77, u 78, u 79, u 80, u 81, u 82, u 83, u 84, u 85, u 86, u 87, u 88, u 89, u 90, u 91, u 92, u 93, u 94, u 95, u 96, u 97, u 98, u 99, u 100, u 101, u 102, u 103], defers := [] } := by
  obtain ⟨tmps, defers⟩ := act
  obtain ⟨hs, hd, h0, h1, h2, h3, h4, h5, h6, h7, h8, h9, h10, h11⟩ := h
  have hd' : defers = [] := hd
  subst hd'
  have key : tmps = #[tmps.getD 0 undef, tmps.getD 1 undef, tmps.getD 2 undef, tmps.getD 3 undef, tmps.getD 4 undef, tmps.getD 5 undef, tmps.getD 6 undef, tmps.getD 7 undef, tmps.getD 8 undef, tmps.getD 9 undef, tmps.getD 10 undef, tmps.getD 11 undef, tmps.getD 12 undef, tmps.getD 13 undef, tmps.getD 14 undef, tmps.getD 15 undef, tmps.getD 16 undef, tmps.getD 17 undef, tmps.getD 18 undef, tmps.getD 19 undef, tmps.getD 20 undef, tmps.getD 21 undef, tmps.getD 22 undef, tmps.getD 23 undef, tmps.getD 24 undef, tmps.getD 25 undef, tmps.getD 26 undef, tmps.getD 27 undef, tmps.getD 28 undef, tmps.getD 29 undef, tmps.getD 30 undef, tmps.getD 31 undef, tmps.getD 32 undef, tmps.getD 33 undef, tmps.getD 34 undef, tmps.getD 35 undef, tmps.getD 36 undef, tmps.getD 37 undef, tmps.getD 38 undef, tmps.getD 39 undef, tmps.getD 40 undef, tmps.getD 41 undef, tmps.getD 42 undef, tmps.getD 43 undef, tmps.getD 44 undef, tmps.getD 45 undef, tmps.getD 46 undef, tmps.getD 47 undef, tmps.getD 48 undef, tmps.getD 49 undef, tmps.getD 50 undef, tmps.getD 51 undef, tmps.getD 52 undef, tmps.getD 53 undef, tmps.getD 54 undef, tmps.getD 55 undef, tmps.getD 56 undef, tmps.getD 57 undef, tmps.getD 58 undef, tmps.getD 59 undef, tmps.getD 60 undef, tmps.getD 61 undef, tmps.getD 62 undef, tmps.getD 63 undef, tmps.getD 64 undef, tmps.getD 65 undef, tmps.getD 66 undef, tmps.getD 67 undef, tmps.getD 68 undef, tmps.getD 69 undef, tmps.getD 70 undef, tmps.getD 71 undef, tmps.getD 72 undef, tmps.getD 73 undef, tmps.getD 74 undef, tmps.getD 75 undef, tmps.getD 76 undef, tmps.getD 77 undef, tmps.getD 78 undef, tmps.getD 79 undef, tmps.getD 80 undef, tmps.getD 81 undef, tmps.getD 82 undef, tmps.getD 83 undef, tmps.getD 84 undef, tmps.getD 85 undef, tmps.getD 86 undef, tmps.getD 87 undef, tmps.getD 88 undef, tmps.getD 89 undef, tmps.getD 90 undef, tmps.getD 91 undef, tmps.getD 92 undef, tmps.getD 93 undef, tmps.getD 94 undef, tmps.getD 95 undef, tmps.getD 96 undef, tmps.getD 97 undef, tmps.getD 98 undef, tmps.getD 99 undef, tmps.getD 100 undef, tmps.getD 101 undef, tmps.getD 102 undef, tmps.getD 103 undef] := frame_arr tmps 104 hs
  simp only at h0 h1 h2 h3 h4 h5 h6 h7 h8 h9 h10 h11
  rw [h0, h1, h2, h3, h4, h5, h6, h7, h8, h9, h10, h11] at key
  exact ⟨fun i => tmps.getD i undef, congrArg (fun t => Act.mk t []) key⟩

/-- The room: its first places hold 'out'. -/
def RdRoom (B g n : Nat) (w w' : World) (out : List Int) : Prop :=
  ∃ zs, Own B 3 .i64 w' (.slice (some ⟨g, 0, none⟩) n n) zs ∧ zs.length = n ∧ zs.take out.length = out ∧ w.grownBy w' (some g)

/-- What is known at each label, beside the frame and the room: of the place i, what is out, the point, how many are left, the bounds. -/
def RdHas (xs : List Int) (i : Nat) (out : List Int) (s7 s8 s10 s11 : Value) : Nat → Prop
  | 0 => out.length ≤ i ∧ out ++ dec (xs.drop i) = dec xs
  | 1 => out.length + 1 ≤ i ∧ ∃ p, s7 = .int .i64 p ∧ out ++ p :: dec (xs.drop i) = dec xs
  | 2 => out.length + 1 ≤ i ∧ out ++ 65533 :: dec (xs.drop i) = dec xs
  | 3 => out.length + 1 ≤ i ∧ ∃ (p : Int) (k : Nat) (lo hi : Int), s7 = .int .i64 p ∧ s8 = .int .i64 ((k : Int) + 1) ∧ s10 = .int .u8 lo ∧ s11 = .int .u8 hi ∧ 128 ≤ lo ∧ hi ≤ 191 ∧ 0 ≤ p ∧ k ≤ 2 ∧ (p + 1) * 64 ^ (k + 1) ≤ 1073741824 ∧
        out ++ (tailOf p (k + 1) lo hi (xs.drop i)).1 :: dec (tailOf p (k + 1) lo hi (xs.drop i)).2 = dec xs
  | _ => False

/-- What holds at each label. -/
def RdAt (B g n : Nat) (v1 : Value) (xs : List Int) (w : World) (l : Nat) (act : Act) (w' : World) : Prop :=
  ∃ (i : Nat) (out : List Int) (s7 s8 s9 s10 s11 : Value), RdFrame (.slice (some ⟨g, 0, none⟩) n n) v1 (.int .i64 i) (.int .i64 out.length) s7 s8 s9 s10 s11 act ∧ RdRoom B g n w w' out ∧ i ≤ xs.length ∧ RdHas xs i out s7 s8 s10 s11 l

/-- How much is still to do at a label. -/
def rdLeft (n : Nat) (l : Nat) (act : Act) (_ : World) : Nat := 8 * (n - (intOf (act.tmps.getD 5 undef)).toNat) + l

theorem rdLeft_eq {v0 v1 s6 s7 s8 s9 s10 s11 : Value} {i n l : Nat} {act : Act} {w : World} (h : RdFrame v0 v1 (.int .i64 i) s6 s7 s8 s9 s10 s11 act) : rdLeft n l act w = 8 * (n - i) + l := by
  unfold rdLeft; rw [h.h5]; simp [intOf]

theorem rdAt_lt {B g n : Nat} {v1 : Value} {xs : List Int} {w : World} (l : Nat) (act : Act) (w' : World) (h : RdAt B g n v1 xs w l act w') : l < 4 := by
  obtain ⟨i, out, s7, s8, s9, s10, s11, _, _, _, h⟩ := h
  match l, h with
  | 0, _ => omega
  | 1, _ => omega
  | 2, _ => omega
  | 3, _ => omega

theorem rdJump {B g n l M i : Nat} {v1 s7 s8 s9 s10 s11 : Value} {xs out : List Int} {w w' : World} {act : Act}
    (hF : RdFrame (.slice (some ⟨g, 0, none⟩) n n) v1 (.int .i64 i) (.int .i64 out.length) s7 s8 s9 s10 s11 act) (hr : RdRoom B g n w w' out) (hi : i ≤ xs.length) (hh : RdHas xs i out s7 s8 s10 s11 l)
    (hM : 8 * (xs.length - i) + l < M) : lower (RdAt B g n v1 xs w) (rdLeft xs.length) M l act w' :=
  ⟨⟨i, out, s7, s8, s9, s10, s11, hF, hr, hi, hh⟩, by rw [rdLeft_eq hF]; exact hM⟩

theorem rdFall {B g n l M i : Nat} {v1 s7 s8 s9 s10 s11 : Value} {xs out : List Int} {w w' : World} {act : Act} {P : Program} {s : Code} {Q : Exit → Act → World → Prop}
    (H : ∀ a w', RdAt B g n v1 xs w l a w' → rdLeft xs.length l a w' ≤ M → s.wp P Q a w')
    (hF : RdFrame (.slice (some ⟨g, 0, none⟩) n n) v1 (.int .i64 i) (.int .i64 out.length) s7 s8 s9 s10 s11 act) (hr : RdRoom B g n w w' out) (hi : i ≤ xs.length) (hh : RdHas xs i out s7 s8 s10 s11 l)
    (hM : 8 * (xs.length - i) + l ≤ M) : s.wp P Q act w' :=
  H _ _ ⟨i, out, s7, s8, s9, s10, s11, hF, hr, hi, hh⟩ (by rw [rdLeft_eq hF]; exact hM)

theorem RdRoom.put {B g n : Nat} {w w' : World} {out : List Int} (h : RdRoom B g n w w' out) (hl : out.length < n) (p : Int) :
    (∃ z, w'.cell? ⟨g, out.length, none⟩ = some (.int .i64 z)) ∧ w'.frozen? ⟨g, out.length, none⟩ = false ∧ RdRoom B g n w (w'.setCell ⟨g, out.length, none⟩ (.int .i64 p)) (out ++ [p]) := by
  obtain ⟨zs, ho, hz, ht, hg⟩ := h
  unfold Own at ho
  rw [hz] at ho
  have hk : out.length < zs.length := by omega
  refine ⟨?_, ho.frozenAt _, zs.set out.length p, ?_, by simpa using hz, ?_, grown_trans hg (ho.stored _ _).2⟩
  · have hc := ho.cellAt out.length (by omega)
    rw [hc, List.getElem?_map, List.getElem?_eq_getElem hk]; exact ⟨_, rfl⟩
  · unfold Own
    rw [List.length_set, hz, List.map_set]; exact (ho.stored _ _).1
  · rw [List.length_append, List.length_singleton, List.take_succ_eq_append_getElem (by simpa using hk), List.getElem_set_self, List.take_set_of_le (Nat.le_refl _), ht]

end Go.Proofs.YtokkigfjabbdaaaGreatDoor

/- The contract of the specification's small question whether a number lies between two bounds. No condition. -/
namespace Go.Proofs.YtokkigfjabbdaaaGreatDoor
open Go.RowKit
set_option maxRecDepth 100000
set_option linter.unusedVariables false

def inB (x lo hi : Int) : Bool := decide (lo ≤ x) && decide (x ≤ hi)
theorem inB_yes {x lo hi : Int} (h : lo ≤ x) (h' : x ≤ hi) : inB x lo hi = true := by simp [inB, h, h']
theorem inB_no {x lo hi : Int} (h : x < lo ∨ hi < x) : inB x lo hi = false := by
  rcases h with h | h
  · simp [inB]; omega
  · simp [inB]; omega

theorem l1In_any (x lo hi : Int) (w : World) : Calls Tryz.prog 56 #[.int .i64 x, .int .i64 lo, .int .i64 hi] w fun e w' => e = .returned (.bool (inB x lo hi)) ∧ w' = w := by
  rcases (show x < lo ∨ (lo ≤ x ∧ hi < x) ∨ (lo ≤ x ∧ x ≤ hi) by omega) with h | ⟨h, h'⟩ | ⟨h, h'⟩
  · rw [inB_no (.inl h)]
    go_enter Tryz.func56, Tryz.ntmps56
    go_wp2
    go_ret
    exact ⟨rfl, rfl⟩
  · rw [inB_no (.inr h')]
    go_enter Tryz.func56, Tryz.ntmps56
    go_wp2
    go_ret
    exact ⟨ret_bool (by first | (simp; done) | (simp; omega)), rfl⟩
  · rw [inB_yes h h']
    go_enter Tryz.func56, Tryz.ntmps56
    go_wp2
    go_ret
    exact ⟨ret_bool (by first | (simp; done) | (simp; omega)), rfl⟩
end Go.Proofs.YtokkigfjabbdaaaGreatDoor

/- The contracts of the specification's reading of points: it reads what the plain function 'dec' tells. -/
namespace Go.Proofs.YtokkigfjabbdaaaGreatDoor
open Go.RowKit
set_option maxRecDepth 100000
set_option linter.unusedVariables false

/-- How many bytes a form has. -/
def formsOf (b : Int) : Int := if b < 128 then 1 else if 194 ≤ b ∧ b ≤ 223 then 2 else if 224 ≤ b ∧ b ≤ 239 then 3 else if 240 ≤ b ∧ b ≤ 244 then 4 else 0
theorem forms1 {b : Int} (h : b < 128) : formsOf b = 1 := by unfold formsOf; rw [if_pos h]
theorem forms2 {b : Int} (h : 194 ≤ b ∧ b ≤ 223) : formsOf b = 2 := by unfold formsOf; rw [if_neg (by omega), if_pos h]
theorem forms3 {b : Int} (h : 224 ≤ b ∧ b ≤ 239) : formsOf b = 3 := by unfold formsOf; rw [if_neg (by omega), if_neg (by omega), if_pos h]
theorem forms4 {b : Int} (h : 240 ≤ b ∧ b ≤ 244) : formsOf b = 4 := by unfold formsOf; rw [if_neg (by omega), if_neg (by omega), if_neg (by omega), if_pos h]
theorem forms0 {b : Int} (h : 128 ≤ b ∧ b < 194 ∨ 244 < b) : formsOf b = 0 := by unfold formsOf; rw [if_neg (by omega), if_neg (by omega), if_neg (by omega), if_neg (by omega)]

/-- The bounds of byte number j + 1 behind the first. -/
def loJ (b : Int) (j : Nat) : Int := if j = 0 then loOf b else 128
def hiJ (b : Int) (j : Nat) : Int := if j = 0 then hiOf b else 191
/-- The point that a form at place i comes to behind j of its bytes. -/
def pf (xs : List Int) (i : Nat) (p0 : Int) : Nat → Int
  | 0 => p0
  | j + 1 => pf xs i p0 j * 64 + xs.getD (i + 1 + j) 0 - 128
/-- How much the first byte of a form of m bytes more has besides its point. -/
def baseOf (m : Nat) : Int := if m = 1 then 192 else if m = 2 then 224 else 240

theorem getD_ok {xs : List Int} (h : ∀ x ∈ xs, 0 ≤ x ∧ x ≤ 255) (k : Nat) : 0 ≤ xs.getD k 0 ∧ xs.getD k 0 ≤ 255 := by
  by_cases hk : k < xs.length
  · have := h xs[k] (List.getElem_mem hk)
    simpa [List.getD_eq_getElem?_getD, hk] using this
  · simp [List.getD_eq_getElem?_getD, hk]
theorem pf_bound {xs : List Int} (h : ∀ x ∈ xs, 0 ≤ x ∧ x ≤ 255) (i : Nat) (p0 : Int) (h0 : 0 ≤ p0 ∧ p0 ≤ 255) (j : Nat) (hj : j ≤ 3) : -1000000000 ≤ pf xs i p0 j ∧ pf xs i p0 j ≤ 1000000000 := by
  have a0 := getD_ok h (i + 1 + 0)
  have a1 := getD_ok h (i + 1 + 1)
  have a2 := getD_ok h (i + 1 + 2)
  rcases (show j = 0 ∨ j = 1 ∨ j = 2 ∨ j = 3 by omega) with rfl | rfl | rfl | rfl
  · simp only [pf]; omega
  · simp only [pf]; omega
  · simp only [pf]; omega
  · simp only [pf]; omega

theorem tail_step {xs : List Int} {i m j : Nat} {b p0 : Int} (T : tailOf p0 m (loOf b) (hiOf b) (xs.drop (i + 1)) = tailOf (pf xs i p0 j) (m - j) (loJ b j) (hiJ b j) (xs.drop (i + 1 + j)))
    (hj : j < m) (hl : i + 1 + j < xs.length) (h1 : loJ b j ≤ xs[i + 1 + j]) (h2 : xs[i + 1 + j] ≤ hiJ b j) :
    tailOf p0 m (loOf b) (hiOf b) (xs.drop (i + 1)) = tailOf (pf xs i p0 (j + 1)) (m - (j + 1)) (loJ b (j + 1)) (hiJ b (j + 1)) (xs.drop (i + 1 + (j + 1))) := by
  obtain ⟨d, hd⟩ : ∃ d, m - j = d + 1 := ⟨m - j - 1, by omega⟩
  have hd' : m - (j + 1) = d := by omega
  have e : xs.getD (i + 1 + j) 0 = xs[i + 1 + j] := by simp [List.getD_eq_getElem?_getD, hl]
  rw [T, hd, hd', List.drop_eq_getElem_cons hl, tail_in _ _ _ h1 h2]
  simp only [pf, e, loJ, hiJ]
  simp [Nat.add_assoc]
theorem tail_all {xs : List Int} {i m : Nat} {b p0 : Int} (T : tailOf p0 m (loOf b) (hiOf b) (xs.drop (i + 1)) = tailOf (pf xs i p0 m) (m - m) (loJ b m) (hiJ b m) (xs.drop (i + 1 + m))) :
    tailOf p0 m (loOf b) (hiOf b) (xs.drop (i + 1)) = (pf xs i p0 m, xs.drop (i + 1 + m)) := by rw [T, Nat.sub_self]; rfl
theorem tail_stop {xs : List Int} {i m j : Nat} {b p0 : Int} (T : tailOf p0 m (loOf b) (hiOf b) (xs.drop (i + 1)) = tailOf (pf xs i p0 j) (m - j) (loJ b j) (hiJ b j) (xs.drop (i + 1 + j)))
    (hj : j < m) (hl : i + 1 + j = xs.length) : tailOf p0 m (loOf b) (hiOf b) (xs.drop (i + 1)) = (65533, xs.drop (i + 1 + j)) := by
  obtain ⟨d, hd⟩ : ∃ d, m - j = d + 1 := ⟨m - j - 1, by omega⟩
  rw [T, hd, List.drop_eq_nil_of_le (by omega), tail_end]
theorem tail_bad {xs : List Int} {i m j : Nat} {b p0 : Int} (T : tailOf p0 m (loOf b) (hiOf b) (xs.drop (i + 1)) = tailOf (pf xs i p0 j) (m - j) (loJ b j) (hiJ b j) (xs.drop (i + 1 + j)))
    (hj : j < m) (hl : i + 1 + j < xs.length) (h : xs[i + 1 + j] < loJ b j ∨ hiJ b j < xs[i + 1 + j]) : tailOf p0 m (loOf b) (hiOf b) (xs.drop (i + 1)) = (65533, xs.drop (i + 1 + j)) := by
  obtain ⟨d, hd⟩ : ∃ d, m - j = d + 1 := ⟨m - j - 1, by omega⟩
  rw [T, hd, List.drop_eq_getElem_cons hl, tail_out _ _ _ h]
theorem dec_form {b : Int} {m : Nat} (hm : 1 ≤ m ∧ m ≤ 3) (h : formsOf b = (m : Int) + 1) (r : List Int) :
    dec (b :: r) = (tailOf (b - baseOf m) m (loOf b) (hiOf b) r).1 :: dec (tailOf (b - baseOf m) m (loOf b) (hiOf b) r).2 := by
  by_cases h1 : b < 128
  · rw [forms1 h1] at h; omega
  by_cases h2 : 194 ≤ b ∧ b ≤ 223
  · rw [forms2 h2] at h
    obtain rfl : m = 1 := by omega
    exact dec_two r h2
  by_cases h3 : 224 ≤ b ∧ b ≤ 239
  · rw [forms3 h3] at h
    obtain rfl : m = 2 := by omega
    exact dec_three r h3
  by_cases h4 : 240 ≤ b ∧ b ≤ 244
  · rw [forms4 h4] at h
    obtain rfl : m = 3 := by omega
    exact dec_four r h4
  · rw [forms0 (by omega)] at h; omega
/-- What the outer loop keeps: one point more, and the place behind it. -/
theorem dec_snoc {xs out : List Int} {i k : Nat} {p : Int} (h : out ++ dec (xs.drop i) = dec xs) (hi : i < xs.length) (hd : dec (xs[i] :: xs.drop (i + 1)) = p :: dec (xs.drop k)) : (out ++ [p]) ++ dec (xs.drop k) = dec xs := by
  rw [List.drop_eq_getElem_cons hi, hd] at h
  rw [List.append_assoc]; exact h
theorem dec_snoc_form {xs out : List Int} {i k m : Nat} {p : Int} (h : out ++ dec (xs.drop i) = dec xs) (hi : i < xs.length) (hm : 1 ≤ m ∧ m ≤ 3) (hf : formsOf xs[i] = (m : Int) + 1)
    (ht : tailOf (xs[i] - baseOf m) m (loOf xs[i]) (hiOf xs[i]) (xs.drop (i + 1)) = (p, xs.drop k)) : (out ++ [p]) ++ dec (xs.drop k) = dec xs :=
  dec_snoc h hi (by rw [dec_form hm hf, ht])

end Go.Proofs.YtokkigfjabbdaaaGreatDoor

/- The contracts of UtfRead, the program's and the specification's, at every slice of bytes. -/
namespace Go.Proofs.YtokkigfjabbdaaaGreatDoor
open Go.RowKit
set_option maxRecDepth 100000
set_option linter.unusedVariables false

theorem take3 {xs : List Int} (h : 3 ≤ xs.length) : xs.take 3 = [xs[0], xs[1], xs[2]] := by
  match xs, h with
  | a :: b :: c :: r, _ => rfl
theorem unmark_short {xs : List Int} (h : ¬ 3 ≤ xs.length) : unmark xs = xs := by
  unfold unmark; rw [if_neg]
  intro e
  have := congrArg List.length e
  simp at this; omega
theorem unmark_yes {xs : List Int} (h : 3 ≤ xs.length) (h0 : xs[0] = 239) (h1 : xs[1] = 187) (h2 : xs[2] = 191) : unmark xs = xs.drop 3 := by
  unfold unmark; rw [if_pos]; rw [take3 h, h0, h1, h2]
theorem unmark_no {xs : List Int} (h : 3 ≤ xs.length) (hn : xs[0] ≠ 239 ∨ xs[1] ≠ 187 ∨ xs[2] ≠ 191) : unmark xs = xs := by
  unfold unmark; rw [if_neg]; rw [take3 h]; simp; omega

/-- What is cut off at the front of a slice. -/
theorem Sl.drop3 {K : IntKind} {w : World} {b off cap : Nat} {xs : List Int} (h : Sl K w (.slice (some ⟨b, off, none⟩) xs.length cap) xs) (h3 : 3 ≤ xs.length) (hc : 3 < cap) :
    Sl K w (.slice (some ⟨b, off + 3, none⟩) (xs.length - 3) (cap - 3)) (xs.drop 3) := by
  obtain ⟨a', c', e, hl, hm, hnn, ha⟩ := h
  cases e
  refine ⟨some ⟨b, off + 3, none⟩, cap - 3, by simp, by simp; omega, by omega, (fun h => by cases h), fun k hk => ⟨b, off + 3, rfl, ?_⟩⟩
  simp at hk
  obtain ⟨b2, o2, e2, c2⟩ := ha (3 + k) (by omega)
  cases e2
  have e3 : (xs.drop 3).getD k 0 = xs.getD (3 + k) 0 := by simp [List.getD_eq_getElem?_getD]
  rw [e3, Nat.add_assoc]; exact c2

theorem Sl.drop3_end {K : IntKind} {w : World} {a : Addr} {xs : List Int} (h : xs.length = 3) : Sl K w (.slice (some a) (xs.length - 3) 0) (xs.drop 3) := by
  have e : xs.drop 3 = [] := List.drop_eq_nil_of_le (by omega)
  rw [e, h]
  exact ⟨some a, 0, rfl, Nat.le_refl _, Nat.zero_le _, fun _ => rfl, fun k hk => absurd hk (Nat.not_lt_zero _)⟩

theorem byte_ok {xs : List Int} (h : ∀ n ∈ xs, (Lit.int .u8 n).wf = true) : ∀ x ∈ xs, 0 ≤ x ∧ x ≤ 255 := fun x hx => by
  have h1 := h x hx
  have e1 : IntKind.u8.min = 0 := rfl
  have e2 : IntKind.u8.max = 255 := rfl
  simp [Lit.wf, e1, e2] at h1
  omega

theorem unmark_mem {xs : List Int} (h : ∀ x ∈ xs, 0 ≤ x ∧ x ≤ 255) : ∀ x ∈ unmark xs, 0 ≤ x ∧ x ≤ 255 := fun x hx => by
  unfold unmark at hx; split at hx
  · exact h x (List.mem_of_mem_drop hx)
  · exact h x hx

/-- Of a room whose first places hold 'out', the slice of those. -/
theorem RdRoom.cut {B g n : Nat} {w w' : World} {out : List Int} (h : RdRoom B g n w w' out) (hl : out.length ≤ n) : Sl .i64 w' (.slice (some ⟨g, 0, none⟩) out.length n) out := by
  obtain ⟨zs, ho, hz, ht, hg⟩ := h
  subst hz
  obtain ⟨a, cap, e, h1, h2, h3, hc⟩ := ho.sl
  cases e
  refine ⟨some ⟨g, 0, none⟩, _, rfl, by omega, h2, (fun h => by cases h), fun k hk => ?_⟩
  obtain ⟨b, off, e, c⟩ := hc k (by omega)
  refine ⟨b, off, e, ?_⟩
  have e2 : out.getD k 0 = zs.getD k 0 := by
    conv => lhs; rw [← ht]
    simp [List.getD_eq_getElem?_getD, hk]
  rw [e2]; exact c

end Go.Proofs.YtokkigfjabbdaaaGreatDoor

/- Contracts of PointOk and PointPut, the program's and the specification's, at every number. -/
namespace Go.Proofs.YtokkigfjabbdaaaGreatDoor
open Go.RowKit
set_option maxRecDepth 100000
set_option linter.unusedVariables false

end Go.Proofs.YtokkigfjabbdaaaGreatDoor
