/- A rule for a scope in which the run jumps among four labels: what holds at each label, and a measure that every pass lowers. No condition. -/
import Derived.WalkKit
import Derived.Scope
import Derived.ScopeJumps
import Derived.WalkMore
import Derived.Test.YtggfifchkecnjaaDoorU0
import Derived.Test.YtggfifchkecnjaaDoorU1
import Derived.Test.YtggfifchkecnjaaDoorU2
import Derived.Test.YtggfifchkecnjaaDoorRows
namespace Go.Proofs.YtggfifchkecnjaaDoor

/-- As Q; by a goto to label l: J l. -/
def jumps (J : Nat → Act → World → Prop) (Q : Exit → Act → World → Prop) : Exit → Act → World → Prop
  | .goto l, a, w => J l a w
  | .normal, a, w => Q .normal a w
  | .exit i, a, w => Q (.exit i) a w
  | .ret, a, w => Q .ret a w
  | .panic c, a, w => Q (.panic c) a w
  | .outgrown, a, w => Q .outgrown a w

section
variable {J : Nat → Act → World → Prop} {Q : Exit → Act → World → Prop} {a : Act} {w : World}
theorem jumps_goto (l : Nat) : jumps J Q (.goto l) a w = J l a w := rfl
theorem jumps_ret : jumps J Q .ret a w = Q .ret a w := rfl
theorem jumps_panic (c : List PanicEntry) : jumps J Q (.panic c) a w = Q (.panic c) a w := rfl
end

/-- .. and the measure is below M. -/
def lower (J : Nat → Act → World → Prop) (m : Nat → Act → World → Nat) (M : Nat) : Nat → Act → World → Prop := fun l a w => J l a w ∧ m l a w < M

theorem wp_weaken {P : Program} {c : Code} {Q Q' : Exit → Act → World → Prop} {a : Act} {w : World} (h : c.wp P Q a w) (hq : ∀ e a w, Q e a w → Q' e a w) : c.wp P Q' a w := by
  intro b k cs
  obtain ⟨e, a', w', q, arr⟩ := h b k cs
  exact ⟨e, a', w', hq _ _ _ q, arr⟩

theorem jumps_mono {J J' : Nat → Act → World → Prop} {Q : Exit → Act → World → Prop} (h : ∀ l a w, J l a w → J' l a w) (e : Exit) (a : Act) (w : World) (q : jumps J Q e a w) : jumps J' Q e a w := by
  cases e <;> first | exact h _ _ _ q | exact q

theorem wp_scope_many {P : Program} {Q : Exit → Act → World → Prop} {a : Act} {w : World} {c : Code} (J : Nat → Act → World → Prop) (m : Nat → Act → World → Nat) (rest : Nat → Code)
    (hf : ∀ l a w, J l a w → findLabel c l = some (rest l)) (first : c.wp P (jumps J Q) a w)
    (pass : ∀ l a w, J l a w → (rest l).wp P (jumps (lower J m (m l a w)) Q) a w) : (Code.scope c).wp P Q a w := by
  intro b k cs
  have hg : ∀ l a w, J l a w → gotoIn l (.inScope c :: k) = some (.code (rest l) :: .inScope c :: k) := fun l a w h => by simp [gotoIn, hf l a w h]
  have key : ∀ n l a w, m l a w = n → J l a w → ∃ e a' w', Q e a' w' ∧ Arrives P (lone (b.at a (.code (rest l) :: .inScope c :: k)) cs w) b k cs e a' w' := by
    intro n
    induction n using Nat.strongRecOn with
    | _ n ih =>
      intro l a w hn hJ
      obtain ⟨e, a₁, w₁, hq, harr⟩ := pass l a w hJ b (.inScope c :: k) cs
      cases e with
      | normal => exact ⟨.normal, a₁, w₁, hq, Steps.trans harr (.one step_inScope)⟩
      | exit id => exact ⟨.exit id, a₁, w₁, hq, fun k' hk => harr k' (by simp [exitTo, hk])⟩
      | goto l' =>
        obtain ⟨hJ', hlt⟩ := hq
        obtain ⟨e₂, a₂, w₂, hq₂, harr₂⟩ := ih _ (by omega) l' a₁ w₁ rfl hJ'
        exact ⟨e₂, a₂, w₂, hq₂, .of_steps (harr _ (hg _ _ _ hJ')) harr₂⟩
      | ret => exact ⟨_, a₁, w₁, hq, harr⟩
      | panic ch => exact ⟨_, a₁, w₁, hq, harr⟩
      | outgrown => exact ⟨_, a₁, w₁, hq, harr⟩
  obtain ⟨e, a₁, w₁, hq, harr⟩ := first b (.inScope c :: k) cs
  cases e with
  | normal => exact ⟨.normal, a₁, w₁, hq, .head step_scope (Steps.trans harr (.one step_inScope))⟩
  | exit id => exact ⟨.exit id, a₁, w₁, hq, fun k' hk => .head step_scope (harr k' (by simp [exitTo, hk]))⟩
  | goto l' =>
    obtain ⟨e₂, a₂, w₂, hq₂, harr₂⟩ := key _ l' a₁ w₁ rfl hq
    exact ⟨e₂, a₂, w₂, hq₂, .of_steps (.head step_scope (harr _ (hg _ _ _ hq))) harr₂⟩
  | ret => exact ⟨_, a₁, w₁, hq, .of_steps (.one step_scope) harr⟩
  | panic ch => exact ⟨_, a₁, w₁, hq, .of_steps (.one step_scope) harr⟩
  | outgrown => exact ⟨_, a₁, w₁, hq, .of_steps (.one step_scope) harr⟩

theorem wp_after_skip {P : Program} {Q : Exit → Act → World → Prop} {a : Act} {w : World} {s : Code} (h : s.wp P Q a w) : (Code.skip.seq s).wp P Q a w := by
  apply wp_seq
  apply wp_skip
  exact h

/-- Four labels: 0 falls into 3, 2 falls into 1. -/
theorem wp_scope_four {P : Program} {Q : Exit → Act → World → Prop} {a : Act} {w : World} {c s0 s1 s2 s3 : Code} (J : Nat → Act → World → Prop) (m : Nat → Act → World → Nat)
    (h0 : findLabel c 0 = some (Code.skip.seq s0)) (h1 : findLabel c 1 = some (Code.skip.seq s1)) (h2 : findLabel c 2 = some (Code.skip.seq s2)) (h3 : findLabel c 3 = some (Code.skip.seq s3))
    (hJ : ∀ l a w, J l a w → l < 4)
    (first : (∀ a w, J 0 a w → s0.wp P (jumps J Q) a w) → c.wp P (jumps J Q) a w)
    (pass1 : ∀ M a w, J 1 a w → m 1 a w ≤ M → s1.wp P (jumps (lower J m M) Q) a w)
    (pass2 : ∀ M, (∀ a w, J 1 a w → m 1 a w ≤ M → s1.wp P (jumps (lower J m M) Q) a w) → ∀ a w, J 2 a w → m 2 a w ≤ M → s2.wp P (jumps (lower J m M) Q) a w)
    (pass3 : ∀ M a w, J 3 a w → m 3 a w ≤ M → s3.wp P (jumps (lower J m M) Q) a w)
    (pass0 : ∀ M, (∀ a w, J 3 a w → m 3 a w ≤ M → s3.wp P (jumps (lower J m M) Q) a w) → ∀ a w, J 0 a w → m 0 a w ≤ M → s0.wp P (jumps (lower J m M) Q) a w) : (Code.scope c).wp P Q a w := by
  refine wp_scope_many J m (fun l => match l with | 0 => Code.skip.seq s0 | 1 => Code.skip.seq s1 | 2 => Code.skip.seq s2 | _ => Code.skip.seq s3) ?_ ?_ ?_
  · intro l a w h
    have := hJ l a w h
    match l, this with
    | 0, _ => exact h0
    | 1, _ => exact h1
    | 2, _ => exact h2
    | 3, _ => exact h3
  · exact first (fun a w h => wp_weaken (pass0 _ (pass3 _) a w h (Nat.le_refl _)) (jumps_mono fun l a w hl => hl.1))
  · intro l a w h
    have := hJ l a w h
    match l, this with
    | 0, _ => exact wp_after_skip (pass0 _ (pass3 _) a w h (Nat.le_refl _))
    | 1, _ => exact wp_after_skip (pass1 _ a w h (Nat.le_refl _))
    | 2, _ => exact wp_after_skip (pass2 _ (pass1 _) a w h (Nat.le_refl _))
    | 3, _ => exact wp_after_skip (pass3 _ a w h (Nat.le_refl _))

/-- A frame of n slots, written out by its slots. -/
theorem frame_arr (t : Array Value) (n : Nat) (h : t.size = n) : t = ((List.range n).map (fun i => t.getD i undef)).toArray := by
  apply Array.ext
  · simp [h]
  · intro i h1 h2
    simp [Array.getD, h1]
end Go.Proofs.YtggfifchkecnjaaDoor

/- The contract of readPoints: it reads from bytes the points that the plain function 'dec' tells, into a room that is long enough. -/
namespace Go.Proofs.YtggfifchkecnjaaDoor
open Go.RowKit
set_option maxRecDepth 100000
set_option linter.unusedVariables false

/-- The frame of readPoints: its twelve first slots. -/
structure RdFrame (v0 v1 s5 s6 s7 s8 s9 s10 s11 : Value) (act : Act) : Prop where
  size : act.tmps.size = 104
  defers : act.defers = []
  h0 : act.tmps.getD 0 undef = v0
  h1 : act.tmps.getD 1 undef = v1
  h2 : act.tmps.getD 2 undef = undef
  h3 : act.tmps.getD 3 undef = undef
  h4 : act.tmps.getD 4 undef = .int .i64 0
  h5 : act.tmps.getD 5 undef = s5
  h6 : act.tmps.getD 6 undef = s6
  h7 : act.tmps.getD 7 undef = s7
  h8 : act.tmps.getD 8 undef = s8
  h9 : act.tmps.getD 9 undef = s9
  h10 : act.tmps.getD 10 undef = s10
  h11 : act.tmps.getD 11 undef = s11

theorem RdFrame.lit {v0 v1 s5 s6 s7 s8 s9 s10 s11 : Value} {act : Act} (h : RdFrame v0 v1 s5 s6 s7 s8 s9 s10 s11 act) :
    ∃ u : Nat → Value, act = { tmps := #[v0, v1, undef, undef, .int .i64 0, s5, s6, s7, s8, s9, s10, s11, u 12, u 13, u 14, u 15, u 16, u 17, u 18, u 19, u 20, u 21, u 22, u 23, u 24, u 25, u 26, u 27, u 28, u 29, u 30, u 31, u 32, u 33, u 34, u 35, u 36, u 37, u 38, u 39, u 40, u 41, u 42, u 43, u 44, u 45, u 46, u 47, u 48, u 49, u 50, u 51, u 52, u 53, u 54, u 55, u 56, u 57, u 58, u 59, u 60, u 61, u 62, u 63, u 64, u 65, u 66, u 67, u 68, u 69, u 70, u 71, u 72, u 73, u 74, u 75, u 76, u 77, u 78, u 79, u 80, u 81, u 82, u 83, u 84, u 85, u 86, u 87, u 88, u 89, u 90, u 91, u 92, u 93, u 94, u 95, u 96, u 97, u 98, u 99, u 100, u 101, u 102, u 103], defers := [] } := by
  obtain ⟨tmps, defers⟩ := act
  obtain ⟨hs, hd, h0, h1, h2, h3, h4, h5, h6, h7, h8, h9, h10, h11⟩ := h
  have hd' : defers = [] := hd
  subst hd'
  have key : tmps = #[tmps.getD 0 undef, tmps.getD 1 undef, tmps.getD 2 undef, tmps.getD 3 undef, tmps.getD 4 undef, tmps.getD 5 undef, tmps.getD 6 undef, tmps.getD 7 undef, tmps.getD 8 undef, tmps.getD 9 undef, tmps.getD 10 undef, tmps.getD 11 undef, tmps.getD 12 undef, tmps.getD 13 undef, tmps.getD 14 undef, tmps.getD 15 undef, tmps.getD 16 undef, tmps.getD 17 undef, tmps.getD 18 undef, tmps.getD 19 undef, tmps.getD 20 undef, tmps.getD 21 undef, tmps.getD 22 undef, tmps.getD 23 undef, tmps.getD 24 undef, tmps.getD 25 undef, tmps.getD 26 undef, tmps.getD 27 undef, tmps.getD 28 undef, tmps.getD 29 undef, tmps.getD 30 undef, tmps.getD 31 undef, tmps.getD 32 undef, tmps.getD 33 undef, tmps.getD 34 undef, tmps.getD 35 undef, tmps.getD 36 undef, tmps.getD 37 undef, tmps.getD 38 undef, tmps.getD 39 undef, tmps.getD 40 undef, tmps.getD 41 undef, tmps.getD 42 undef, tmps.getD 43 undef, tmps.getD 44 undef, tmps.getD 45 undef, tmps.getD 46 undef, tmps.getD 47 undef, tmps.getD 48 undef, tmps.getD 49 undef, tmps.getD 50 undef, tmps.getD 51 undef, tmps.getD 52 undef, tmps.getD 53 undef, tmps.getD 54 undef, tmps.getD 55 undef, tmps.getD 56 undef, tmps.getD 57 undef, tmps.getD 58 undef, tmps.getD 59 undef, tmps.getD 60 undef, tmps.getD 61 undef, tmps.getD 62 undef, tmps.getD 63 undef, tmps.getD 64 undef, tmps.getD 65 undef, tmps.getD 66 undef, tmps.getD 67 undef, tmps.getD 68 undef, tmps.getD 69 undef, tmps.getD 70 undef, tmps.getD 71 undef, tmps.getD 72 undef, tmps.getD 73 undef, tmps.getD 74 undef, tmps.getD 75 undef, tmps.getD 76 undef, tmps.getD 77 undef, tmps.getD 78 undef, tmps.getD 79 undef, tmps.getD 80 undef, tmps.getD 81 undef, tmps.getD 82 undef, tmps.getD 83 undef, tmps.getD 84 undef, tmps.getD 85 undef, tmps.getD 86 undef, tmps.getD 87 undef, tmps.getD 88 undef, tmps.getD 89 undef, tmps.getD 90 undef, tmps.getD 91 undef, tmps.getD 92 undef, tmps.getD 93 undef, tmps.getD 94 undef, tmps.getD 95 undef, tmps.getD 96 undef, tmps.getD 97 undef, tmps.getD 98 undef, tmps.getD 99 undef, tmps.getD 100 undef, tmps.getD 101 undef, tmps.getD 102 undef, tmps.getD 103 undef] := frame_arr tmps 104 hs
  simp only at h0 h1 h2 h3 h4 h5 h6 h7 h8 h9 h10 h11
  rw [h0, h1, h2, h3, h4, h5, h6, h7, h8, h9, h10, h11] at key
  exact ⟨fun i => tmps.getD i undef, congrArg (fun t => Act.mk t []) key⟩

/-- The room: its first places hold 'out'. -/
def RdRoom (B g n : Nat) (w w' : World) (out : List Int) : Prop :=
  ∃ zs, Own B 3 .i64 w' (.slice (some ⟨g, 0, none⟩) n n) zs ∧ zs.length = n ∧ zs.take out.length = out ∧ w.grownBy w' (some g)

/-- What is known at each label, beside the frame and the room: of the place i, what is out, the point, how many are left, the bounds. -/
def RdHas (xs : List Int) (i : Nat) (out : List Int) (s7 s8 s10 s11 : Value) : Nat → Prop
  | 0 => out.length ≤ i ∧ out ++ dec (xs.drop i) = dec xs
  | 1 => out.length + 1 ≤ i ∧ ∃ p, s7 = .int .i64 p ∧ out ++ p :: dec (xs.drop i) = dec xs
  | 2 => out.length + 1 ≤ i ∧ out ++ 65533 :: dec (xs.drop i) = dec xs
  | 3 => out.length + 1 ≤ i ∧ ∃ (p : Int) (k : Nat) (lo hi : Int), s7 = .int .i64 p ∧ s8 = .int .i64 ((k : Int) + 1) ∧ s10 = .int .u8 lo ∧ s11 = .int .u8 hi ∧ 128 ≤ lo ∧ hi ≤ 191 ∧ 0 ≤ p ∧ k ≤ 2 ∧ (p + 1) * 64 ^ (k + 1) ≤ 1073741824 ∧
        out ++ (tailOf p (k + 1) lo hi (xs.drop i)).1 :: dec (tailOf p (k + 1) lo hi (xs.drop i)).2 = dec xs
  | _ => False

/-- What holds at each label. -/
def RdAt (B g n : Nat) (v1 : Value) (xs : List Int) (w : World) (l : Nat) (act : Act) (w' : World) : Prop :=
  ∃ (i : Nat) (out : List Int) (s7 s8 s9 s10 s11 : Value), RdFrame (.slice (some ⟨g, 0, none⟩) n n) v1 (.int .i64 i) (.int .i64 out.length) s7 s8 s9 s10 s11 act ∧ RdRoom B g n w w' out ∧ i ≤ xs.length ∧ RdHas xs i out s7 s8 s10 s11 l

/-- How much is still to do at a label. -/
def rdLeft (n : Nat) (l : Nat) (act : Act) (_ : World) : Nat := 8 * (n - (intOf (act.tmps.getD 5 undef)).toNat) + l

theorem rdLeft_eq {v0 v1 s6 s7 s8 s9 s10 s11 : Value} {i n l : Nat} {act : Act} {w : World} (h : RdFrame v0 v1 (.int .i64 i) s6 s7 s8 s9 s10 s11 act) : rdLeft n l act w = 8 * (n - i) + l := by
  unfold rdLeft; rw [h.h5]; simp [intOf]

theorem rdAt_lt {B g n : Nat} {v1 : Value} {xs : List Int} {w : World} (l : Nat) (act : Act) (w' : World) (h : RdAt B g n v1 xs w l act w') : l < 4 := by
  obtain ⟨i, out, s7, s8, s9, s10, s11, _, _, _, h⟩ := h
  match l, h with
  | 0, _ => omega
  | 1, _ => omega
  | 2, _ => omega
  | 3, _ => omega

theorem rdJump {B g n l M i : Nat} {v1 s7 s8 s9 s10 s11 : Value} {xs out : List Int} {w w' : World} {act : Act}
    (hF : RdFrame (.slice (some ⟨g, 0, none⟩) n n) v1 (.int .i64 i) (.int .i64 out.length) s7 s8 s9 s10 s11 act) (hr : RdRoom B g n w w' out) (hi : i ≤ xs.length) (hh : RdHas xs i out s7 s8 s10 s11 l)
    (hM : 8 * (xs.length - i) + l < M) : lower (RdAt B g n v1 xs w) (rdLeft xs.length) M l act w' :=
  ⟨⟨i, out, s7, s8, s9, s10, s11, hF, hr, hi, hh⟩, by rw [rdLeft_eq hF]; exact hM⟩

theorem rdFall {B g n l M i : Nat} {v1 s7 s8 s9 s10 s11 : Value} {xs out : List Int} {w w' : World} {act : Act} {P : Program} {s : Code} {Q : Exit → Act → World → Prop}
    (H : ∀ a w', RdAt B g n v1 xs w l a w' → rdLeft xs.length l a w' ≤ M → s.wp P Q a w')
    (hF : RdFrame (.slice (some ⟨g, 0, none⟩) n n) v1 (.int .i64 i) (.int .i64 out.length) s7 s8 s9 s10 s11 act) (hr : RdRoom B g n w w' out) (hi : i ≤ xs.length) (hh : RdHas xs i out s7 s8 s10 s11 l)
    (hM : 8 * (xs.length - i) + l ≤ M) : s.wp P Q act w' :=
  H _ _ ⟨i, out, s7, s8, s9, s10, s11, hF, hr, hi, hh⟩ (by rw [rdLeft_eq hF]; exact hM)

theorem RdRoom.put {B g n : Nat} {w w' : World} {out : List Int} (h : RdRoom B g n w w' out) (hl : out.length < n) (p : Int) :
    (∃ z, w'.cell? ⟨g, out.length, none⟩ = some (.int .i64 z)) ∧ w'.frozen? ⟨g, out.length, none⟩ = false ∧ RdRoom B g n w (w'.setCell ⟨g, out.length, none⟩ (.int .i64 p)) (out ++ [p]) := by
  obtain ⟨zs, ho, hz, ht, hg⟩ := h
  unfold Own at ho
  rw [hz] at ho
  have hk : out.length < zs.length := by omega
  refine ⟨?_, ho.frozenAt _, zs.set out.length p, ?_, by simpa using hz, ?_, grown_trans hg (ho.stored _ _).2⟩
  · have hc := ho.cellAt out.length (by omega)
    rw [hc, List.getElem?_map, List.getElem?_eq_getElem hk]; exact ⟨_, rfl⟩
  · unfold Own
    rw [List.length_set, hz, List.map_set]; exact (ho.stored _ _).1
  · rw [List.length_append, List.length_singleton, List.take_succ_eq_append_getElem (by simpa using hk), List.getElem_set_self, List.take_set_of_le (Nat.le_refl _), ht]

end Go.Proofs.YtggfifchkecnjaaDoor

/- The contract of the specification's small question whether a number lies between two bounds. No condition. -/
namespace Go.Proofs.YtggfifchkecnjaaDoor
open Go.RowKit
set_option maxRecDepth 100000
set_option linter.unusedVariables false

def inB (x lo hi : Int) : Bool := decide (lo ≤ x) && decide (x ≤ hi)
theorem inB_yes {x lo hi : Int} (h : lo ≤ x) (h' : x ≤ hi) : inB x lo hi = true := by simp [inB, h, h']
theorem inB_no {x lo hi : Int} (h : x < lo ∨ hi < x) : inB x lo hi = false := by
  rcases h with h | h
  · simp [inB]; omega
  · simp [inB]; omega

theorem l1In_any (x lo hi : Int) (w : World) : Calls Tryd.prog 40 #[.int .i64 x, .int .i64 lo, .int .i64 hi] w fun e w' => e = .returned (.bool (inB x lo hi)) ∧ w' = w := by
  rcases (show x < lo ∨ (lo ≤ x ∧ hi < x) ∨ (lo ≤ x ∧ x ≤ hi) by omega) with h | ⟨h, h'⟩ | ⟨h, h'⟩
  · rw [inB_no (.inl h)]
    go_enter Tryd.func40, Tryd.ntmps40
    go_wp2
    go_ret
    exact ⟨rfl, rfl⟩
  · rw [inB_no (.inr h')]
    go_enter Tryd.func40, Tryd.ntmps40
    go_wp2
    go_ret
    exact ⟨ret_bool (by first | (simp; done) | (simp; omega)), rfl⟩
  · rw [inB_yes h h']
    go_enter Tryd.func40, Tryd.ntmps40
    go_wp2
    go_ret
    exact ⟨ret_bool (by first | (simp; done) | (simp; omega)), rfl⟩
end Go.Proofs.YtggfifchkecnjaaDoor

/- Contracts of LinesOf, the program's and the specification's, and of copyOf, at every list of integers. -/
namespace Go.Proofs.YtggfifchkecnjaaDoor
open Go.RowKit
set_option maxRecDepth 100000
set_option linter.unusedVariables false

/-- What LinesOf tells of the number at place i. -/
def lineAt (xs : List Int) (i : Nat) : List Int :=
  if xs.getD i 0 ≠ 13 then [xs.getD i 0] else if i + 1 = xs.length ∨ xs.getD (i + 1) 0 ≠ 10 then [10] else []
/-- .. of the first k. -/
def linesTo (xs : List Int) (k : Nat) : List Int := (List.range k).flatMap (lineAt xs)
/-- What LinesOf answers. -/
def linesOf (xs : List Int) : List Int := if xs.length ≤ 3000 then linesTo xs xs.length else []

theorem linesTo_succ (xs : List Int) (k : Nat) : linesTo xs (k + 1) = linesTo xs k ++ lineAt xs k := by simp [linesTo, List.range_succ]
theorem lineAt_len (xs : List Int) (i : Nat) : (lineAt xs i).length ≤ 1 := by unfold lineAt; repeat (split <;> try simp)
theorem linesTo_len (xs : List Int) (k : Nat) : (linesTo xs k).length ≤ k := by
  induction k with
  | zero => simp [linesTo]
  | succ k ih => have := lineAt_len xs k; rw [linesTo_succ, List.length_append]; omega
theorem linesOf_len (xs : List Int) : (linesOf xs).length ≤ 3000 := by
  unfold linesOf; split
  · have := linesTo_len xs xs.length; omega
  · simp
theorem lineAt_char {xs : List Int} {i : Nat} (h : xs.getD i 0 ≠ 13) : lineAt xs i = [xs.getD i 0] := by simp only [lineAt, if_pos h]
theorem lineAt_end {xs : List Int} {i : Nat} (h : xs.getD i 0 = 13) (h' : i + 1 = xs.length ∨ xs.getD (i + 1) 0 ≠ 10) : lineAt xs i = [10] := by
  simp only [lineAt, h, ne_eq, not_true_eq_false, if_false]; rw [if_pos h']
theorem lineAt_none {xs : List Int} {i : Nat} (h : xs.getD i 0 = 13) (h1 : i + 1 ≠ xs.length) (h' : xs.getD (i + 1) 0 = 10) : lineAt xs i = [] := by
  simp only [lineAt, h, ne_eq, not_true_eq_false, if_false]; rw [if_neg (by rintro (h2 | h2); exact h1 h2; exact h2 h')]

theorem lineC {xs : List Int} {k : Nat} (h : k < xs.length) (h' : xs[k] ≠ 13) : lineAt xs k = [xs[k]] := by
  have e : xs.getD k 0 = xs[k] := by simp [List.getD_eq_getElem?_getD, h]
  rw [lineAt_char (by rw [e]; exact h'), e]
theorem lineE {xs : List Int} {k : Nat} (h : k < xs.length) (h' : xs[k] = 13) (h2 : k + 1 = xs.length) : lineAt xs k = [10] :=
  lineAt_end (by simp [List.getD_eq_getElem?_getD, h, h']) (.inl h2)
theorem lineX {xs : List Int} {k : Nat} (h : k < xs.length) (h' : xs[k] = 13) (h2 : k + 1 < xs.length) (h3 : xs[k + 1] ≠ 10) : lineAt xs k = [10] :=
  lineAt_end (by simp [List.getD_eq_getElem?_getD, h, h']) (.inr (by simpa [List.getD_eq_getElem?_getD, h2] using h3))
theorem lineN {xs : List Int} {k : Nat} (h : k < xs.length) (h' : xs[k] = 13) (h2 : k + 1 < xs.length) (h3 : xs[k + 1] = 10) : lineAt xs k = [] :=
  lineAt_none (by simp [List.getD_eq_getElem?_getD, h, h']) (by omega) (by simp [List.getD_eq_getElem?_getD, h2, h3])

theorem Tryd.sizeI : Option.map (fun x => x.size) (Tryd.prog.info? 3) = some 1 := by kernel_rfl

theorem sl_one (e : TypeId) (K : IntKind) (w : World) (x : Int) : Sl K (w.alloc (.cells #[.int K x] e)) (.slice (some ⟨w.heap.size, 0, none⟩) 1 1) [x] :=
  Own.sl (World.ownsRow_lit w #[Value.int K x] 1 (Nat.le_refl _) (by unfold maxLen; omega) rfl : Own w.heap.size e K _ _ [x])

end Go.Proofs.YtggfifchkecnjaaDoor

/- The contracts of the specification's reading of points: it reads what the plain function 'dec' tells. -/
namespace Go.Proofs.YtggfifchkecnjaaDoor
open Go.RowKit
set_option maxRecDepth 100000
set_option linter.unusedVariables false

/-- How many bytes a form has. -/
def formsOf (b : Int) : Int := if b < 128 then 1 else if 194 ≤ b ∧ b ≤ 223 then 2 else if 224 ≤ b ∧ b ≤ 239 then 3 else if 240 ≤ b ∧ b ≤ 244 then 4 else 0
theorem forms1 {b : Int} (h : b < 128) : formsOf b = 1 := by unfold formsOf; rw [if_pos h]
theorem forms2 {b : Int} (h : 194 ≤ b ∧ b ≤ 223) : formsOf b = 2 := by unfold formsOf; rw [if_neg (by omega), if_pos h]
theorem forms3 {b : Int} (h : 224 ≤ b ∧ b ≤ 239) : formsOf b = 3 := by unfold formsOf; rw [if_neg (by omega), if_neg (by omega), if_pos h]
theorem forms4 {b : Int} (h : 240 ≤ b ∧ b ≤ 244) : formsOf b = 4 := by unfold formsOf; rw [if_neg (by omega), if_neg (by omega), if_neg (by omega), if_pos h]
theorem forms0 {b : Int} (h : 128 ≤ b ∧ b < 194 ∨ 244 < b) : formsOf b = 0 := by unfold formsOf; rw [if_neg (by omega), if_neg (by omega), if_neg (by omega), if_neg (by omega)]

theorem l1Forms_any (b : Int) (w : World) : Calls Tryd.prog 28 #[.int .i64 b] w fun e w' => e = .returned (.int .i64 (formsOf b)) ∧ w' = w := by
  rcases (show b < 128 ∨ (194 ≤ b ∧ b ≤ 223) ∨ (224 ≤ b ∧ b ≤ 239) ∨ (240 ≤ b ∧ b ≤ 244) ∨ (128 ≤ b ∧ b < 194) ∨ 244 < b by omega) with h | h | h | h | h | h
  · rw [forms1 h]
    go_enter Tryd.func28, Tryd.ntmps28
    go_wp2
    go_ret
    exact ⟨rfl, rfl⟩
  · rw [forms2 h]
    obtain ⟨h1, h2⟩ := h
    go_enter Tryd.func28, Tryd.ntmps28
    go_wp2
    go_ret
    exact ⟨rfl, rfl⟩
  · rw [forms3 h]
    obtain ⟨h1, h2⟩ := h
    go_enter Tryd.func28, Tryd.ntmps28
    go_wp2
    go_ret
    exact ⟨rfl, rfl⟩
  · rw [forms4 h]
    obtain ⟨h1, h2⟩ := h
    go_enter Tryd.func28, Tryd.ntmps28
    go_wp2
    go_ret
    exact ⟨rfl, rfl⟩
  · rw [forms0 (.inl h)]
    obtain ⟨h1, h2⟩ := h
    go_enter Tryd.func28, Tryd.ntmps28
    go_wp2
    go_ret
    exact ⟨rfl, rfl⟩
  · rw [forms0 (.inr h)]
    go_enter Tryd.func28, Tryd.ntmps28
    go_wp2
    go_ret
    exact ⟨rfl, rfl⟩

theorem fits1 (b c : Int) (w : World) : Calls Tryd.prog 29 #[.int .i64 b, .int .i64 1, .int .i64 c] w fun e w' => e = .returned (.bool (inB c (loOf b) (hiOf b))) ∧ w' = w := by
  rcases (show b = 224 ∨ b = 237 ∨ b = 240 ∨ b = 244 ∨ (b ≠ 224 ∧ b ≠ 237 ∧ b ≠ 240 ∧ b ≠ 244) by omega) with rfl | rfl | rfl | rfl | ⟨h1, h2, h3, h4⟩
  · go_enter Tryd.func29, Tryd.ntmps29
    go_wp2_with (go_at_call 40; refine (l1In_any _ _ _ _).mono ?_; rintro e w' ⟨rfl, rfl⟩)
    go_ret
    exact ⟨rfl, rfl⟩
  · go_enter Tryd.func29, Tryd.ntmps29
    go_wp2_with (go_at_call 40; refine (l1In_any _ _ _ _).mono ?_; rintro e w' ⟨rfl, rfl⟩)
    go_ret
    exact ⟨rfl, rfl⟩
  · go_enter Tryd.func29, Tryd.ntmps29
    go_wp2_with (go_at_call 40; refine (l1In_any _ _ _ _).mono ?_; rintro e w' ⟨rfl, rfl⟩)
    go_ret
    exact ⟨rfl, rfl⟩
  · go_enter Tryd.func29, Tryd.ntmps29
    go_wp2_with (go_at_call 40; refine (l1In_any _ _ _ _).mono ?_; rintro e w' ⟨rfl, rfl⟩)
    go_ret
    exact ⟨rfl, rfl⟩
  · have e1 : (b == 224) = false := by simpa using h1
    have e2 : (b == 237) = false := by simpa using h2
    have e3 : (b == 240) = false := by simpa using h3
    have e4 : (b == 244) = false := by simpa using h4
    have hl : loOf b = 128 := by unfold loOf; rw [if_neg h1, if_neg h3]
    have hh : hiOf b = 191 := by unfold hiOf; rw [if_neg h2, if_neg h4]
    rw [hl, hh]
    clear h1 h2 h3 h4 hl hh
    go_enter Tryd.func29, Tryd.ntmps29
    go_wp2_with (go_at_call 40; refine (l1In_any _ _ _ _).mono ?_; rintro e w' ⟨rfl, rfl⟩)
    go_ret
    exact ⟨rfl, rfl⟩

theorem fitsN (b k c : Int) (hk : 2 ≤ k) (w : World) : Calls Tryd.prog 29 #[.int .i64 b, .int .i64 k, .int .i64 c] w fun e w' => e = .returned (.bool (inB c 128 191)) ∧ w' = w := by
  have e1 : (k == 1) = false := by simp; omega
  go_enter Tryd.func29, Tryd.ntmps29
  go_wp2_with (go_at_call 40; refine (l1In_any _ _ _ _).mono ?_; rintro e w' ⟨rfl, rfl⟩)
  go_ret
  exact ⟨rfl, rfl⟩

/-- The bounds of byte number j + 1 behind the first. -/
def loJ (b : Int) (j : Nat) : Int := if j = 0 then loOf b else 128
def hiJ (b : Int) (j : Nat) : Int := if j = 0 then hiOf b else 191
theorem fits_any (b : Int) (j : Nat) (c : Int) (w : World) : Calls Tryd.prog 29 #[.int .i64 b, .int .i64 ((j : Int) + 1), .int .i64 c] w fun e w' => e = .returned (.bool (inB c (loJ b j) (hiJ b j))) ∧ w' = w := by
  cases j with
  | zero => exact fits1 b c w
  | succ j => exact fitsN b _ c (by omega) w
/-- The point that a form at place i comes to behind j of its bytes. -/
def pf (xs : List Int) (i : Nat) (p0 : Int) : Nat → Int
  | 0 => p0
  | j + 1 => pf xs i p0 j * 64 + xs.getD (i + 1 + j) 0 - 128
/-- How much the first byte of a form of m bytes more has besides its point. -/
def baseOf (m : Nat) : Int := if m = 1 then 192 else if m = 2 then 224 else 240

theorem getD_ok {xs : List Int} (h : ∀ x ∈ xs, 0 ≤ x ∧ x ≤ 255) (k : Nat) : 0 ≤ xs.getD k 0 ∧ xs.getD k 0 ≤ 255 := by
  by_cases hk : k < xs.length
  · have := h xs[k] (List.getElem_mem hk)
    simpa [List.getD_eq_getElem?_getD, hk] using this
  · simp [List.getD_eq_getElem?_getD, hk]
theorem pf_bound {xs : List Int} (h : ∀ x ∈ xs, 0 ≤ x ∧ x ≤ 255) (i : Nat) (p0 : Int) (h0 : 0 ≤ p0 ∧ p0 ≤ 255) (j : Nat) (hj : j ≤ 3) : -1000000000 ≤ pf xs i p0 j ∧ pf xs i p0 j ≤ 1000000000 := by
  have a0 := getD_ok h (i + 1 + 0)
  have a1 := getD_ok h (i + 1 + 1)
  have a2 := getD_ok h (i + 1 + 2)
  rcases (show j = 0 ∨ j = 1 ∨ j = 2 ∨ j = 3 by omega) with rfl | rfl | rfl | rfl
  · simp only [pf]; omega
  · simp only [pf]; omega
  · simp only [pf]; omega
  · simp only [pf]; omega

theorem tail_step {xs : List Int} {i m j : Nat} {b p0 : Int} (T : tailOf p0 m (loOf b) (hiOf b) (xs.drop (i + 1)) = tailOf (pf xs i p0 j) (m - j) (loJ b j) (hiJ b j) (xs.drop (i + 1 + j)))
    (hj : j < m) (hl : i + 1 + j < xs.length) (h1 : loJ b j ≤ xs[i + 1 + j]) (h2 : xs[i + 1 + j] ≤ hiJ b j) :
    tailOf p0 m (loOf b) (hiOf b) (xs.drop (i + 1)) = tailOf (pf xs i p0 (j + 1)) (m - (j + 1)) (loJ b (j + 1)) (hiJ b (j + 1)) (xs.drop (i + 1 + (j + 1))) := by
  obtain ⟨d, hd⟩ : ∃ d, m - j = d + 1 := ⟨m - j - 1, by omega⟩
  have hd' : m - (j + 1) = d := by omega
  have e : xs.getD (i + 1 + j) 0 = xs[i + 1 + j] := by simp [List.getD_eq_getElem?_getD, hl]
  rw [T, hd, hd', List.drop_eq_getElem_cons hl, tail_in _ _ _ h1 h2]
  simp only [pf, e, loJ, hiJ]
  simp [Nat.add_assoc]
theorem tail_all {xs : List Int} {i m : Nat} {b p0 : Int} (T : tailOf p0 m (loOf b) (hiOf b) (xs.drop (i + 1)) = tailOf (pf xs i p0 m) (m - m) (loJ b m) (hiJ b m) (xs.drop (i + 1 + m))) :
    tailOf p0 m (loOf b) (hiOf b) (xs.drop (i + 1)) = (pf xs i p0 m, xs.drop (i + 1 + m)) := by rw [T, Nat.sub_self]; rfl
theorem tail_stop {xs : List Int} {i m j : Nat} {b p0 : Int} (T : tailOf p0 m (loOf b) (hiOf b) (xs.drop (i + 1)) = tailOf (pf xs i p0 j) (m - j) (loJ b j) (hiJ b j) (xs.drop (i + 1 + j)))
    (hj : j < m) (hl : i + 1 + j = xs.length) : tailOf p0 m (loOf b) (hiOf b) (xs.drop (i + 1)) = (65533, xs.drop (i + 1 + j)) := by
  obtain ⟨d, hd⟩ : ∃ d, m - j = d + 1 := ⟨m - j - 1, by omega⟩
  rw [T, hd, List.drop_eq_nil_of_le (by omega), tail_end]
theorem tail_bad {xs : List Int} {i m j : Nat} {b p0 : Int} (T : tailOf p0 m (loOf b) (hiOf b) (xs.drop (i + 1)) = tailOf (pf xs i p0 j) (m - j) (loJ b j) (hiJ b j) (xs.drop (i + 1 + j)))
    (hj : j < m) (hl : i + 1 + j < xs.length) (h : xs[i + 1 + j] < loJ b j ∨ hiJ b j < xs[i + 1 + j]) : tailOf p0 m (loOf b) (hiOf b) (xs.drop (i + 1)) = (65533, xs.drop (i + 1 + j)) := by
  obtain ⟨d, hd⟩ : ∃ d, m - j = d + 1 := ⟨m - j - 1, by omega⟩
  rw [T, hd, List.drop_eq_getElem_cons hl, tail_out _ _ _ h]
theorem dec_form {b : Int} {m : Nat} (hm : 1 ≤ m ∧ m ≤ 3) (h : formsOf b = (m : Int) + 1) (r : List Int) :
    dec (b :: r) = (tailOf (b - baseOf m) m (loOf b) (hiOf b) r).1 :: dec (tailOf (b - baseOf m) m (loOf b) (hiOf b) r).2 := by
  by_cases h1 : b < 128
  · rw [forms1 h1] at h; omega
  by_cases h2 : 194 ≤ b ∧ b ≤ 223
  · rw [forms2 h2] at h
    obtain rfl : m = 1 := by omega
    exact dec_two r h2
  by_cases h3 : 224 ≤ b ∧ b ≤ 239
  · rw [forms3 h3] at h
    obtain rfl : m = 2 := by omega
    exact dec_three r h3
  by_cases h4 : 240 ≤ b ∧ b ≤ 244
  · rw [forms4 h4] at h
    obtain rfl : m = 3 := by omega
    exact dec_four r h4
  · rw [forms0 (by omega)] at h; omega
/-- What the outer loop keeps: one point more, and the place behind it. -/
theorem dec_snoc {xs out : List Int} {i k : Nat} {p : Int} (h : out ++ dec (xs.drop i) = dec xs) (hi : i < xs.length) (hd : dec (xs[i] :: xs.drop (i + 1)) = p :: dec (xs.drop k)) : (out ++ [p]) ++ dec (xs.drop k) = dec xs := by
  rw [List.drop_eq_getElem_cons hi, hd] at h
  rw [List.append_assoc]; exact h
theorem dec_snoc_form {xs out : List Int} {i k m : Nat} {p : Int} (h : out ++ dec (xs.drop i) = dec xs) (hi : i < xs.length) (hm : 1 ≤ m ∧ m ≤ 3) (hf : formsOf xs[i] = (m : Int) + 1)
    (ht : tailOf (xs[i] - baseOf m) m (loOf xs[i]) (hiOf xs[i]) (xs.drop (i + 1)) = (p, xs.drop k)) : (out ++ [p]) ++ dec (xs.drop k) = dec xs :=
  dec_snoc h hi (by rw [dec_form hm hf, ht])

set_option maxHeartbeats 4000000 in
set_option maxRecDepth 100000 in
theorem l1Read_any {v : Value} {xs : List Int} {w : World} (h : Sl .u8 w v xs) (hb : ∀ x ∈ xs, 0 ≤ x ∧ x ≤ 255) (hn : xs.length ≤ 1073741824) :
    Calls Tryd.prog 21 #[v] w fun e w' => ∃ v', e = .returned v' ∧ Own w.heap.size 3 .i64 w' v' (dec xs) ∧ Below w.heap.size w w' := by
  obtain ⟨a, ca, rfl, _, _, _, ha⟩ := h
  have hown0 := own_empty 3 .i64 w
  have hbel0 : Below w.heap.size w (w.alloc (.cells #[] 3)) := (Below.refl _ _).alloc (Nat.le_refl _) _
  obtain ⟨i0, hi, hz0, hz1, hz2⟩ := info_parts Tryd.infoI
  have HB : Hid (∀ x ∈ xs, 0 ≤ x ∧ x ≤ 255) := hb
  clear hb
  go_enter Tryd.func21, Tryd.ntmps21
  go_wp2
  go_loopw [3, 4] (fun v q wr => ∃ (i : Nat) (out : List Int), i ≤ xs.length ∧ out.length ≤ i ∧ q = .int .i64 i ∧ Own w.heap.size 3 .i64 wr v out ∧ out ++ dec (xs.drop i) = dec xs ∧ Below w.heap.size w wr) (fun _ q _ => xs.length - (intOf q).toNat)
  case atStart => exact ⟨0, [], Nat.zero_le _, Nat.le_refl _, rfl, hown0, rfl, hbel0⟩
  case round =>
    clear hown0 hbel0
    obtain ⟨i, out, hil, hol, rfl, hown, hdec, hbel⟩ := hrel
    have hbs := hbel.size
    have HD : Hid (out ++ dec (xs.drop i) = dec xs) := hdec
    clear hdec
    by_cases hlt : i < xs.length
    · have ha' := ha.below hbel
      obtain ⟨b1, o1, rfl, c1⟩ := ha' i hlt
      have hx : 0 ≤ xs[i] ∧ xs[i] ≤ 255 := HB.out _ (List.getElem_mem hlt)
      have HC : Hid (∀ k, k < xs.length → wr.cell? ⟨b1, o1 + k, none⟩ = some (.int .u8 xs[k]!)) := by
        intro k hk
        obtain ⟨b2, o2, eb, c2⟩ := ha' k hk
        cases eb
        simpa [List.getD_eq_getElem?_getD, hk] using c2
      clear ha ha'
      rcases (show xs[i] < 128 ∨ (128 ≤ xs[i] ∧ xs[i] < 194 ∨ 244 < xs[i]) ∨ (194 ≤ xs[i] ∧ xs[i] ≤ 223) ∨ (224 ≤ xs[i] ∧ xs[i] ≤ 239) ∨ (240 ≤ xs[i] ∧ xs[i] ≤ 244) by omega) with h1 | h1 | h1 | h1 | h1
      · have HF : Hid (formsOf xs[i] = 1) := forms1 h1
        have H1 : Hid (xs[i] < 128) := h1
        have HFF : Hid (∀ w, Calls Tryd.prog 28 #[.int .i64 xs[i]] w fun e w' => e = .returned (.int .i64 1) ∧ w' = w) := fun w => by have := l1Forms_any xs[i] w; rw [HF.out] at this; exact this
        go_wp2_with (go_at_call 28; refine (HFF.out _).mono ?_; rintro e w' ⟨rfl, rfl⟩)
        refine wp_loop_rounds 1 ?_
        rw [rounds_succ]
        go_wp2
        refine wp_loop_rounds 1 ?_
        rw [rounds_succ]
        go_wp2_with (at_builtin; refine wpList_app _ rfl (.tmp 90) (.tmp 92) 27 rfl w.heap.size 3 i0 (.int .i64 0) 8 Tryd.underlying27 hi hz0 hz1 hz2 rfl .i64 _ _ out [xs[i]] rfl rfl (hown.alloc _) (sl_one _ _ _ _) (by simp; omega) (by unfold maxLen; simp; omega) (by simp; omega) ?_; intro v' w3 o3 g3)
        go_roundw
        case rel => exact ⟨i + 1, out ++ [xs[i]], by omega, by simp; omega, by go_num, o3, dec_snoc HD.out hlt (dec_ascii _ H1.out), (hbel.alloc hbs _).grown g3 (by simp; omega) hown.grownAt⟩
        case measure => simp [intOf]; omega
      · have HF : Hid (formsOf xs[i] = 0) := forms0 h1
        have H1 : Hid (128 ≤ xs[i] ∧ xs[i] < 194 ∨ 244 < xs[i]) := h1
        clear h1
        have HFF : Hid (∀ w, Calls Tryd.prog 28 #[.int .i64 xs[i]] w fun e w' => e = .returned (.int .i64 0) ∧ w' = w) := fun w => by have := l1Forms_any xs[i] w; rw [HF.out] at this; exact this
        go_wp2_with (go_at_call 28; refine (HFF.out _).mono ?_; rintro e w' ⟨rfl, rfl⟩)
        refine wp_loop_rounds 1 ?_
        rw [rounds_succ]
        go_wp2_with (at_builtin; refine wpList_app _ rfl (.tmp 54) (.tmp 55) 27 rfl w.heap.size 3 i0 (.int .i64 0) 8 Tryd.underlying27 hi hz0 hz1 hz2 rfl .i64 _ _ out [65533] rfl rfl (hown.alloc _) (sl_one _ _ _ _) (by simp; omega) (by unfold maxLen; simp; omega) (by simp; omega) ?_; intro v' w3 o3 g3)
        go_roundw
        case rel => exact ⟨i + 1, out ++ [65533], by omega, by simp; omega, by go_num, o3, dec_snoc HD.out hlt (dec_bad _ H1.out), (hbel.alloc hbs _).grown g3 (by simp; omega) hown.grownAt⟩
        case measure => simp [intOf]; omega
      · have HF : Hid (formsOf xs[i] = 2) := forms2 h1
        have HM : Hid (formsOf xs[i] = ((1 : Nat) : Int) + 1) := HF.out
        have HBD : Hid (∀ j, j ≤ 3 → -1000000000 ≤ pf xs i (xs[i] - baseOf 1) j ∧ pf xs i (xs[i] - baseOf 1) j ≤ 1000000000) := fun j hj => pf_bound HB.out i _ (by simp [baseOf]; omega) j hj
        have HX : Hid (∀ k, k < xs.length → 0 ≤ xs[k]! ∧ xs[k]! ≤ 255) := fun k hk => by have := HB.out xs[k] (List.getElem_mem hk); simpa [hk] using this
        have HFF : Hid (∀ w, Calls Tryd.prog 28 #[.int .i64 xs[i]] w fun e w' => e = .returned (.int .i64 2) ∧ w' = w) := fun w => by have := l1Forms_any xs[i] w; rw [HF.out] at this; exact this
        go_wp2_with (go_at_call 28; refine (HFF.out _).mono ?_; rintro e w' ⟨rfl, rfl⟩)
        go_loop [7] (fun q => ∃ j : Nat, j ≤ 1 ∧ i + 1 + j ≤ xs.length ∧ q = .int .i64 ((j : Int) + 1) ∧ tailOf (xs[i] - baseOf 1) 1 (loOf xs[i]) (hiOf xs[i]) (xs.drop (i + 1)) = tailOf (pf xs i (xs[i] - baseOf 1) j) (1 - j) (loJ xs[i] j) (hiJ xs[i] j) (xs.drop (i + 1 + j))) (fun q => 2 - (intOf q).toNat)
        case atStart => exact ⟨0, by omega, by omega, rfl, rfl⟩
        case round =>
          obtain ⟨j, hjm, hjl, rfl, hT⟩ := hrel
          have HT : Hid (tailOf (xs[i] - baseOf 1) 1 (loOf xs[i]) (hiOf xs[i]) (xs.drop (i + 1)) = tailOf (pf xs i (xs[i] - baseOf 1) j) (1 - j) (loJ xs[i] j) (hiJ xs[i] j) (xs.drop (i + 1 + j))) := hT
          clear hT
          by_cases hj : j < 1
          · by_cases hl : i + 1 + j < xs.length
            · obtain ⟨cb, hcb⟩ : ∃ cb, cb = xs.getD (i + 1 + j) 0 := ⟨_, rfl⟩
              have hcx : 0 ≤ cb ∧ cb ≤ 255 := by rw [hcb]; exact getD_ok HB.out _
              have c2 : w'.cell? ⟨b1, o1 + (i + (j + 1)), none⟩ = some (.int .u8 cb) := by
                have e := HC.out (i + (j + 1)) (by omega)
                rw [e, hcb, show i + 1 + j = i + (j + 1) by omega]
                simp [List.getD_eq_getElem?_getD, show i + (j + 1) < xs.length by omega]
              have HCB : Hid (cb = xs.getD (i + 1 + j) 0) := hcb
              clear hcb
              have HCE : Hid (cb = xs[i + 1 + j]) := (show cb = xs[i + 1 + j] by have h := HCB.out; simpa [List.getD_eq_getElem?_getD, hl] using h)
              by_cases hfit : loJ xs[i] j ≤ cb ∧ cb ≤ hiJ xs[i] j
              · have HFT : Hid (∀ w, Calls Tryd.prog 29 #[.int .i64 xs[i], .int .i64 ((j : Int) + 1), .int .i64 cb] w fun e w' => e = .returned (.bool true) ∧ w' = w) := fun w => by have := fits_any xs[i] j cb w; rw [inB_yes hfit.1 hfit.2] at this; exact this
                have HS := (show Hid (tailOf (xs[i] - baseOf 1) 1 (loOf xs[i]) (hiOf xs[i]) (xs.drop (i + 1)) = tailOf (pf xs i (xs[i] - baseOf 1) (j + 1)) (1 - (j + 1)) (loJ xs[i] (j + 1)) (hiJ xs[i] (j + 1)) (xs.drop (i + 1 + (j + 1)))) from tail_step HT.out hj hl (by rw [← HCE.out]; exact hfit.1) (by rw [← HCE.out]; exact hfit.2))
                clear hfit
                go_wp2_with (go_at_call 29; refine (HFT.out _).mono ?_; rintro e w2 ⟨rfl, rfl⟩)
                go_round
                case rel => exact ⟨j + 1, by omega, by omega, by go_num, HS.out⟩
                case measure => simp [intOf]; omega
              · have hbad : cb < loJ xs[i] j ∨ hiJ xs[i] j < cb := by omega
                have HFT : Hid (∀ w, Calls Tryd.prog 29 #[.int .i64 xs[i], .int .i64 ((j : Int) + 1), .int .i64 cb] w fun e w' => e = .returned (.bool false) ∧ w' = w) := fun w => by have := fits_any xs[i] j cb w; rw [inB_no hbad] at this; exact this
                have HS := (show Hid (tailOf (xs[i] - baseOf 1) 1 (loOf xs[i]) (hiOf xs[i]) (xs.drop (i + 1)) = (65533, xs.drop (i + 1 + j))) from tail_bad HT.out hj hl (by rw [← HCE.out]; exact hbad))
                clear hfit hbad
                go_wp2_with (first | (go_at_call 29; refine (HFT.out _).mono ?_; rintro e w2 ⟨rfl, rfl⟩) | (at_builtin; refine wpList_app _ rfl (.tmp 54) (.tmp 55) 27 rfl w.heap.size 3 i0 (.int .i64 0) 8 Tryd.underlying27 hi hz0 hz1 hz2 rfl .i64 _ _ out [65533] rfl rfl (hown.alloc _) (sl_one _ _ _ _) (by simp; omega) (by unfold maxLen; simp; omega) (by simp; omega) ?_; intro v' w3 o3 g3))
                go_roundw
                case rel => exact ⟨i + (j + 1), out ++ [65533], by omega, by simp; omega, by go_num, o3, dec_snoc_form HD.out hlt (by omega) HM.out (by rw [HS.out, Nat.add_assoc, Nat.add_comm 1 j]), (hbel.alloc hbs _).grown g3 (by simp; omega) hown.grownAt⟩
                case measure => simp [intOf]; omega
            · have hle : i + 1 + j = xs.length := by omega
              have HS := (show Hid (tailOf (xs[i] - baseOf 1) 1 (loOf xs[i]) (hiOf xs[i]) (xs.drop (i + 1)) = (65533, xs.drop (i + 1 + j))) from tail_stop HT.out hj hle)
              clear hle
              go_wp2_with (at_builtin; refine wpList_app _ rfl (.tmp 54) (.tmp 55) 27 rfl w.heap.size 3 i0 (.int .i64 0) 8 Tryd.underlying27 hi hz0 hz1 hz2 rfl .i64 _ _ out [65533] rfl rfl (hown.alloc _) (sl_one _ _ _ _) (by simp; omega) (by unfold maxLen; simp; omega) (by simp; omega) ?_; intro v' w3 o3 g3)
              go_roundw
              case rel => exact ⟨i + (j + 1), out ++ [65533], by omega, by simp; omega, by go_num, o3, dec_snoc_form HD.out hlt (by omega) HM.out (by rw [HS.out, Nat.add_assoc, Nat.add_comm 1 j]), (hbel.alloc hbs _).grown g3 (by simp; omega) hown.grownAt⟩
              case measure => simp [intOf]; omega
          · obtain rfl : j = 1 := by omega
            have HS := (show Hid (tailOf (xs[i] - baseOf 1) 1 (loOf xs[i]) (hiOf xs[i]) (xs.drop (i + 1)) = (pf xs i (xs[i] - baseOf 1) 1, xs.drop (i + 1 + 1))) from tail_all HT.out)
            go_wp2
            go_loop [8, 9] (fun x q => ∃ t : Nat, t ≤ 1 ∧ x = .int .i64 (pf xs i (xs[i] - baseOf 1) t) ∧ q = .int .i64 ((t : Int) + 1)) (fun _ q => 2 - (intOf q).toNat)
            case atStart => exact ⟨0, by omega, rfl, rfl⟩
            case round =>
              obtain ⟨t, htm, rfl, rfl⟩ := hrel
              have hpb := HBD.out t (by omega)
              by_cases ht : t < 1
              · obtain ⟨cb, hcb⟩ : ∃ cb, cb = xs.getD (i + 1 + t) 0 := ⟨_, rfl⟩
                have hcx : 0 ≤ cb ∧ cb ≤ 255 := by rw [hcb]; exact getD_ok HB.out _
                have c2 : w'.cell? ⟨b1, o1 + (i + (t + 1)), none⟩ = some (.int .u8 cb) := by
                  have e := HC.out (i + (t + 1)) (by omega)
                  rw [e, hcb, show i + 1 + t = i + (t + 1) by omega]
                  simp [List.getD_eq_getElem?_getD, show i + (t + 1) < xs.length by omega]
                have HCB : Hid (cb = xs.getD (i + 1 + t) 0) := hcb
                clear hcb
                have HPF : Hid (pf xs i (xs[i] - baseOf 1) (t + 1) = pf xs i (xs[i] - baseOf 1) t * 64 + cb - 128) := by rw [HCB.out]; exact (rfl : pf xs i (xs[i] - baseOf 1) (t + 1) = _)
                go_wp2
                go_round
                case rel => exact ⟨t + 1, by omega, by rw [HPF.out]; go_num, by go_num⟩
                case measure => simp [intOf]; omega
              · obtain rfl : t = 1 := by omega
                go_wp2_with (at_builtin; refine wpList_app _ rfl (.tmp 90) (.tmp 92) 27 rfl w.heap.size 3 i0 (.int .i64 0) 8 Tryd.underlying27 hi hz0 hz1 hz2 rfl .i64 _ _ out [pf xs i (xs[i] - baseOf 1) 1] rfl rfl (hown.alloc _) (sl_one _ _ _ _) (by simp; omega) (by unfold maxLen; simp; omega) (by simp; omega) ?_; intro v' w3 o3 g3)
                go_roundw
                case rel => exact ⟨i + 2, out ++ [pf xs i (xs[i] - baseOf 1) 1], by omega, by simp; omega, by go_num, o3, dec_snoc_form HD.out hlt (by omega) HM.out (by rw [HS.out, Nat.add_assoc]), (hbel.alloc hbs _).grown g3 (by simp; omega) hown.grownAt⟩
                case measure => simp [intOf]; omega
      · have HF : Hid (formsOf xs[i] = 3) := forms3 h1
        have HM : Hid (formsOf xs[i] = ((2 : Nat) : Int) + 1) := HF.out
        have HBD : Hid (∀ j, j ≤ 3 → -1000000000 ≤ pf xs i (xs[i] - baseOf 2) j ∧ pf xs i (xs[i] - baseOf 2) j ≤ 1000000000) := fun j hj => pf_bound HB.out i _ (by simp [baseOf]; omega) j hj
        have HX : Hid (∀ k, k < xs.length → 0 ≤ xs[k]! ∧ xs[k]! ≤ 255) := fun k hk => by have := HB.out xs[k] (List.getElem_mem hk); simpa [hk] using this
        have HFF : Hid (∀ w, Calls Tryd.prog 28 #[.int .i64 xs[i]] w fun e w' => e = .returned (.int .i64 3) ∧ w' = w) := fun w => by have := l1Forms_any xs[i] w; rw [HF.out] at this; exact this
        go_wp2_with (go_at_call 28; refine (HFF.out _).mono ?_; rintro e w' ⟨rfl, rfl⟩)
        go_loop [7] (fun q => ∃ j : Nat, j ≤ 2 ∧ i + 1 + j ≤ xs.length ∧ q = .int .i64 ((j : Int) + 1) ∧ tailOf (xs[i] - baseOf 2) 2 (loOf xs[i]) (hiOf xs[i]) (xs.drop (i + 1)) = tailOf (pf xs i (xs[i] - baseOf 2) j) (2 - j) (loJ xs[i] j) (hiJ xs[i] j) (xs.drop (i + 1 + j))) (fun q => 3 - (intOf q).toNat)
        case atStart => exact ⟨0, by omega, by omega, rfl, rfl⟩
        case round =>
          obtain ⟨j, hjm, hjl, rfl, hT⟩ := hrel
          have HT : Hid (tailOf (xs[i] - baseOf 2) 2 (loOf xs[i]) (hiOf xs[i]) (xs.drop (i + 1)) = tailOf (pf xs i (xs[i] - baseOf 2) j) (2 - j) (loJ xs[i] j) (hiJ xs[i] j) (xs.drop (i + 1 + j))) := hT
          clear hT
          by_cases hj : j < 2
          · by_cases hl : i + 1 + j < xs.length
            · obtain ⟨cb, hcb⟩ : ∃ cb, cb = xs.getD (i + 1 + j) 0 := ⟨_, rfl⟩
              have hcx : 0 ≤ cb ∧ cb ≤ 255 := by rw [hcb]; exact getD_ok HB.out _
              have c2 : w'.cell? ⟨b1, o1 + (i + (j + 1)), none⟩ = some (.int .u8 cb) := by
                have e := HC.out (i + (j + 1)) (by omega)
                rw [e, hcb, show i + 1 + j = i + (j + 1) by omega]
                simp [List.getD_eq_getElem?_getD, show i + (j + 1) < xs.length by omega]
              have HCB : Hid (cb = xs.getD (i + 1 + j) 0) := hcb
              clear hcb
              have HCE : Hid (cb = xs[i + 1 + j]) := (show cb = xs[i + 1 + j] by have h := HCB.out; simpa [List.getD_eq_getElem?_getD, hl] using h)
              by_cases hfit : loJ xs[i] j ≤ cb ∧ cb ≤ hiJ xs[i] j
              · have HFT : Hid (∀ w, Calls Tryd.prog 29 #[.int .i64 xs[i], .int .i64 ((j : Int) + 1), .int .i64 cb] w fun e w' => e = .returned (.bool true) ∧ w' = w) := fun w => by have := fits_any xs[i] j cb w; rw [inB_yes hfit.1 hfit.2] at this; exact this
                have HS := (show Hid (tailOf (xs[i] - baseOf 2) 2 (loOf xs[i]) (hiOf xs[i]) (xs.drop (i + 1)) = tailOf (pf xs i (xs[i] - baseOf 2) (j + 1)) (2 - (j + 1)) (loJ xs[i] (j + 1)) (hiJ xs[i] (j + 1)) (xs.drop (i + 1 + (j + 1)))) from tail_step HT.out hj hl (by rw [← HCE.out]; exact hfit.1) (by rw [← HCE.out]; exact hfit.2))
                clear hfit
                go_wp2_with (go_at_call 29; refine (HFT.out _).mono ?_; rintro e w2 ⟨rfl, rfl⟩)
                go_round
                case rel => exact ⟨j + 1, by omega, by omega, by go_num, HS.out⟩
                case measure => simp [intOf]; omega
              · have hbad : cb < loJ xs[i] j ∨ hiJ xs[i] j < cb := by omega
                have HFT : Hid (∀ w, Calls Tryd.prog 29 #[.int .i64 xs[i], .int .i64 ((j : Int) + 1), .int .i64 cb] w fun e w' => e = .returned (.bool false) ∧ w' = w) := fun w => by have := fits_any xs[i] j cb w; rw [inB_no hbad] at this; exact this
                have HS := (show Hid (tailOf (xs[i] - baseOf 2) 2 (loOf xs[i]) (hiOf xs[i]) (xs.drop (i + 1)) = (65533, xs.drop (i + 1 + j))) from tail_bad HT.out hj hl (by rw [← HCE.out]; exact hbad))
                clear hfit hbad
                go_wp2_with (first | (go_at_call 29; refine (HFT.out _).mono ?_; rintro e w2 ⟨rfl, rfl⟩) | (at_builtin; refine wpList_app _ rfl (.tmp 54) (.tmp 55) 27 rfl w.heap.size 3 i0 (.int .i64 0) 8 Tryd.underlying27 hi hz0 hz1 hz2 rfl .i64 _ _ out [65533] rfl rfl (hown.alloc _) (sl_one _ _ _ _) (by simp; omega) (by unfold maxLen; simp; omega) (by simp; omega) ?_; intro v' w3 o3 g3))
                go_roundw
                case rel => exact ⟨i + (j + 1), out ++ [65533], by omega, by simp; omega, by go_num, o3, dec_snoc_form HD.out hlt (by omega) HM.out (by rw [HS.out, Nat.add_assoc, Nat.add_comm 1 j]), (hbel.alloc hbs _).grown g3 (by simp; omega) hown.grownAt⟩
                case measure => simp [intOf]; omega
            · have hle : i + 1 + j = xs.length := by omega
              have HS := (show Hid (tailOf (xs[i] - baseOf 2) 2 (loOf xs[i]) (hiOf xs[i]) (xs.drop (i + 1)) = (65533, xs.drop (i + 1 + j))) from tail_stop HT.out hj hle)
              clear hle
              go_wp2_with (at_builtin; refine wpList_app _ rfl (.tmp 54) (.tmp 55) 27 rfl w.heap.size 3 i0 (.int .i64 0) 8 Tryd.underlying27 hi hz0 hz1 hz2 rfl .i64 _ _ out [65533] rfl rfl (hown.alloc _) (sl_one _ _ _ _) (by simp; omega) (by unfold maxLen; simp; omega) (by simp; omega) ?_; intro v' w3 o3 g3)
              go_roundw
              case rel => exact ⟨i + (j + 1), out ++ [65533], by omega, by simp; omega, by go_num, o3, dec_snoc_form HD.out hlt (by omega) HM.out (by rw [HS.out, Nat.add_assoc, Nat.add_comm 1 j]), (hbel.alloc hbs _).grown g3 (by simp; omega) hown.grownAt⟩
              case measure => simp [intOf]; omega
          · obtain rfl : j = 2 := by omega
            have HS := (show Hid (tailOf (xs[i] - baseOf 2) 2 (loOf xs[i]) (hiOf xs[i]) (xs.drop (i + 1)) = (pf xs i (xs[i] - baseOf 2) 2, xs.drop (i + 1 + 2))) from tail_all HT.out)
            go_wp2
            go_loop [8, 9] (fun x q => ∃ t : Nat, t ≤ 2 ∧ x = .int .i64 (pf xs i (xs[i] - baseOf 2) t) ∧ q = .int .i64 ((t : Int) + 1)) (fun _ q => 3 - (intOf q).toNat)
            case atStart => exact ⟨0, by omega, rfl, rfl⟩
            case round =>
              obtain ⟨t, htm, rfl, rfl⟩ := hrel
              have hpb := HBD.out t (by omega)
              by_cases ht : t < 2
              · obtain ⟨cb, hcb⟩ : ∃ cb, cb = xs.getD (i + 1 + t) 0 := ⟨_, rfl⟩
                have hcx : 0 ≤ cb ∧ cb ≤ 255 := by rw [hcb]; exact getD_ok HB.out _
                have c2 : w'.cell? ⟨b1, o1 + (i + (t + 1)), none⟩ = some (.int .u8 cb) := by
                  have e := HC.out (i + (t + 1)) (by omega)
                  rw [e, hcb, show i + 1 + t = i + (t + 1) by omega]
                  simp [List.getD_eq_getElem?_getD, show i + (t + 1) < xs.length by omega]
                have HCB : Hid (cb = xs.getD (i + 1 + t) 0) := hcb
                clear hcb
                have HPF : Hid (pf xs i (xs[i] - baseOf 2) (t + 1) = pf xs i (xs[i] - baseOf 2) t * 64 + cb - 128) := by rw [HCB.out]; exact (rfl : pf xs i (xs[i] - baseOf 2) (t + 1) = _)
                go_wp2
                go_round
                case rel => exact ⟨t + 1, by omega, by rw [HPF.out]; go_num, by go_num⟩
                case measure => simp [intOf]; omega
              · obtain rfl : t = 2 := by omega
                go_wp2_with (at_builtin; refine wpList_app _ rfl (.tmp 90) (.tmp 92) 27 rfl w.heap.size 3 i0 (.int .i64 0) 8 Tryd.underlying27 hi hz0 hz1 hz2 rfl .i64 _ _ out [pf xs i (xs[i] - baseOf 2) 2] rfl rfl (hown.alloc _) (sl_one _ _ _ _) (by simp; omega) (by unfold maxLen; simp; omega) (by simp; omega) ?_; intro v' w3 o3 g3)
                go_roundw
                case rel => exact ⟨i + 3, out ++ [pf xs i (xs[i] - baseOf 2) 2], by omega, by simp; omega, by go_num, o3, dec_snoc_form HD.out hlt (by omega) HM.out (by rw [HS.out, Nat.add_assoc]), (hbel.alloc hbs _).grown g3 (by simp; omega) hown.grownAt⟩
                case measure => simp [intOf]; omega
      · have HF : Hid (formsOf xs[i] = 4) := forms4 h1
        have HM : Hid (formsOf xs[i] = ((3 : Nat) : Int) + 1) := HF.out
        have HBD : Hid (∀ j, j ≤ 3 → -1000000000 ≤ pf xs i (xs[i] - baseOf 3) j ∧ pf xs i (xs[i] - baseOf 3) j ≤ 1000000000) := fun j hj => pf_bound HB.out i _ (by simp [baseOf]; omega) j hj
        have HX : Hid (∀ k, k < xs.length → 0 ≤ xs[k]! ∧ xs[k]! ≤ 255) := fun k hk => by have := HB.out xs[k] (List.getElem_mem hk); simpa [hk] using this
        have HFF : Hid (∀ w, Calls Tryd.prog 28 #[.int .i64 xs[i]] w fun e w' => e = .returned (.int .i64 4) ∧ w' = w) := fun w => by have := l1Forms_any xs[i] w; rw [HF.out] at this; exact this
        go_wp2_with (go_at_call 28; refine (HFF.out _).mono ?_; rintro e w' ⟨rfl, rfl⟩)
        go_loop [7] (fun q => ∃ j : Nat, j ≤ 3 ∧ i + 1 + j ≤ xs.length ∧ q = .int .i64 ((j : Int) + 1) ∧ tailOf (xs[i] - baseOf 3) 3 (loOf xs[i]) (hiOf xs[i]) (xs.drop (i + 1)) = tailOf (pf xs i (xs[i] - baseOf 3) j) (3 - j) (loJ xs[i] j) (hiJ xs[i] j) (xs.drop (i + 1 + j))) (fun q => 4 - (intOf q).toNat)
        case atStart => exact ⟨0, by omega, by omega, rfl, rfl⟩
        case round =>
          obtain ⟨j, hjm, hjl, rfl, hT⟩ := hrel
          have HT : Hid (tailOf (xs[i] - baseOf 3) 3 (loOf xs[i]) (hiOf xs[i]) (xs.drop (i + 1)) = tailOf (pf xs i (xs[i] - baseOf 3) j) (3 - j) (loJ xs[i] j) (hiJ xs[i] j) (xs.drop (i + 1 + j))) := hT
          clear hT
          by_cases hj : j < 3
          · by_cases hl : i + 1 + j < xs.length
            · obtain ⟨cb, hcb⟩ : ∃ cb, cb = xs.getD (i + 1 + j) 0 := ⟨_, rfl⟩
              have hcx : 0 ≤ cb ∧ cb ≤ 255 := by rw [hcb]; exact getD_ok HB.out _
              have c2 : w'.cell? ⟨b1, o1 + (i + (j + 1)), none⟩ = some (.int .u8 cb) := by
                have e := HC.out (i + (j + 1)) (by omega)
                rw [e, hcb, show i + 1 + j = i + (j + 1) by omega]
                simp [List.getD_eq_getElem?_getD, show i + (j + 1) < xs.length by omega]
              have HCB : Hid (cb = xs.getD (i + 1 + j) 0) := hcb
              clear hcb
              have HCE : Hid (cb = xs[i + 1 + j]) := (show cb = xs[i + 1 + j] by have h := HCB.out; simpa [List.getD_eq_getElem?_getD, hl] using h)
              by_cases hfit : loJ xs[i] j ≤ cb ∧ cb ≤ hiJ xs[i] j
              · have HFT : Hid (∀ w, Calls Tryd.prog 29 #[.int .i64 xs[i], .int .i64 ((j : Int) + 1), .int .i64 cb] w fun e w' => e = .returned (.bool true) ∧ w' = w) := fun w => by have := fits_any xs[i] j cb w; rw [inB_yes hfit.1 hfit.2] at this; exact this
                have HS := (show Hid (tailOf (xs[i] - baseOf 3) 3 (loOf xs[i]) (hiOf xs[i]) (xs.drop (i + 1)) = tailOf (pf xs i (xs[i] - baseOf 3) (j + 1)) (3 - (j + 1)) (loJ xs[i] (j + 1)) (hiJ xs[i] (j + 1)) (xs.drop (i + 1 + (j + 1)))) from tail_step HT.out hj hl (by rw [← HCE.out]; exact hfit.1) (by rw [← HCE.out]; exact hfit.2))
                clear hfit
                go_wp2_with (go_at_call 29; refine (HFT.out _).mono ?_; rintro e w2 ⟨rfl, rfl⟩)
                go_round
                case rel => exact ⟨j + 1, by omega, by omega, by go_num, HS.out⟩
                case measure => simp [intOf]; omega
              · have hbad : cb < loJ xs[i] j ∨ hiJ xs[i] j < cb := by omega
                have HFT : Hid (∀ w, Calls Tryd.prog 29 #[.int .i64 xs[i], .int .i64 ((j : Int) + 1), .int .i64 cb] w fun e w' => e = .returned (.bool false) ∧ w' = w) := fun w => by have := fits_any xs[i] j cb w; rw [inB_no hbad] at this; exact this
                have HS := (show Hid (tailOf (xs[i] - baseOf 3) 3 (loOf xs[i]) (hiOf xs[i]) (xs.drop (i + 1)) = (65533, xs.drop (i + 1 + j))) from tail_bad HT.out hj hl (by rw [← HCE.out]; exact hbad))
                clear hfit hbad
                go_wp2_with (first | (go_at_call 29; refine (HFT.out _).mono ?_; rintro e w2 ⟨rfl, rfl⟩) | (at_builtin; refine wpList_app _ rfl (.tmp 54) (.tmp 55) 27 rfl w.heap.size 3 i0 (.int .i64 0) 8 Tryd.underlying27 hi hz0 hz1 hz2 rfl .i64 _ _ out [65533] rfl rfl (hown.alloc _) (sl_one _ _ _ _) (by simp; omega) (by unfold maxLen; simp; omega) (by simp; omega) ?_; intro v' w3 o3 g3))
                go_roundw
                case rel => exact ⟨i + (j + 1), out ++ [65533], by omega, by simp; omega, by go_num, o3, dec_snoc_form HD.out hlt (by omega) HM.out (by rw [HS.out, Nat.add_assoc, Nat.add_comm 1 j]), (hbel.alloc hbs _).grown g3 (by simp; omega) hown.grownAt⟩
                case measure => simp [intOf]; omega
            · have hle : i + 1 + j = xs.length := by omega
              have HS := (show Hid (tailOf (xs[i] - baseOf 3) 3 (loOf xs[i]) (hiOf xs[i]) (xs.drop (i + 1)) = (65533, xs.drop (i + 1 + j))) from tail_stop HT.out hj hle)
              clear hle
              go_wp2_with (at_builtin; refine wpList_app _ rfl (.tmp 54) (.tmp 55) 27 rfl w.heap.size 3 i0 (.int .i64 0) 8 Tryd.underlying27 hi hz0 hz1 hz2 rfl .i64 _ _ out [65533] rfl rfl (hown.alloc _) (sl_one _ _ _ _) (by simp; omega) (by unfold maxLen; simp; omega) (by simp; omega) ?_; intro v' w3 o3 g3)
              go_roundw
              case rel => exact ⟨i + (j + 1), out ++ [65533], by omega, by simp; omega, by go_num, o3, dec_snoc_form HD.out hlt (by omega) HM.out (by rw [HS.out, Nat.add_assoc, Nat.add_comm 1 j]), (hbel.alloc hbs _).grown g3 (by simp; omega) hown.grownAt⟩
              case measure => simp [intOf]; omega
          · obtain rfl : j = 3 := by omega
            have HS := (show Hid (tailOf (xs[i] - baseOf 3) 3 (loOf xs[i]) (hiOf xs[i]) (xs.drop (i + 1)) = (pf xs i (xs[i] - baseOf 3) 3, xs.drop (i + 1 + 3))) from tail_all HT.out)
            go_wp2
            go_loop [8, 9] (fun x q => ∃ t : Nat, t ≤ 3 ∧ x = .int .i64 (pf xs i (xs[i] - baseOf 3) t) ∧ q = .int .i64 ((t : Int) + 1)) (fun _ q => 4 - (intOf q).toNat)
            case atStart => exact ⟨0, by omega, rfl, rfl⟩
            case round =>
              obtain ⟨t, htm, rfl, rfl⟩ := hrel
              have hpb := HBD.out t (by omega)
              by_cases ht : t < 3
              · obtain ⟨cb, hcb⟩ : ∃ cb, cb = xs.getD (i + 1 + t) 0 := ⟨_, rfl⟩
                have hcx : 0 ≤ cb ∧ cb ≤ 255 := by rw [hcb]; exact getD_ok HB.out _
                have c2 : w'.cell? ⟨b1, o1 + (i + (t + 1)), none⟩ = some (.int .u8 cb) := by
                  have e := HC.out (i + (t + 1)) (by omega)
                  rw [e, hcb, show i + 1 + t = i + (t + 1) by omega]
                  simp [List.getD_eq_getElem?_getD, show i + (t + 1) < xs.length by omega]
                have HCB : Hid (cb = xs.getD (i + 1 + t) 0) := hcb
                clear hcb
                have HPF : Hid (pf xs i (xs[i] - baseOf 3) (t + 1) = pf xs i (xs[i] - baseOf 3) t * 64 + cb - 128) := by rw [HCB.out]; exact (rfl : pf xs i (xs[i] - baseOf 3) (t + 1) = _)
                go_wp2
                go_round
                case rel => exact ⟨t + 1, by omega, by rw [HPF.out]; go_num, by go_num⟩
                case measure => simp [intOf]; omega
              · obtain rfl : t = 3 := by omega
                go_wp2_with (at_builtin; refine wpList_app _ rfl (.tmp 90) (.tmp 92) 27 rfl w.heap.size 3 i0 (.int .i64 0) 8 Tryd.underlying27 hi hz0 hz1 hz2 rfl .i64 _ _ out [pf xs i (xs[i] - baseOf 3) 3] rfl rfl (hown.alloc _) (sl_one _ _ _ _) (by simp; omega) (by unfold maxLen; simp; omega) (by simp; omega) ?_; intro v' w3 o3 g3)
                go_roundw
                case rel => exact ⟨i + 4, out ++ [pf xs i (xs[i] - baseOf 3) 3], by omega, by simp; omega, by go_num, o3, dec_snoc_form HD.out hlt (by omega) HM.out (by rw [HS.out, Nat.add_assoc]), (hbel.alloc hbs _).grown g3 (by simp; omega) hown.grownAt⟩
                case measure => simp [intOf]; omega
    · go_wp2
      go_ret
      have hd := HD.out
      rw [List.drop_eq_nil_of_le (by omega), dec_nil, List.append_nil] at hd
      rw [← hd]
      exact ⟨_, rfl, hown, hbel⟩
end Go.Proofs.YtggfifchkecnjaaDoor
