/- The contract of readPoints: it reads from bytes the points that the plain function 'dec' tells, into a room that is long enough. -/
import Derived.Test.YtiejfnnokfedkaaHelpI
import Derived.Test.YtiejfnnokfedkaaGrow
import Derived.Test.YtiejfnnokfedkaaDec
import Derived.Test.YtiejfnnokfedkaaJumps
namespace Go.Proofs.Ytiejfnnokfedkaa
open Go.RowKit
set_option maxRecDepth 100000
set_option linter.unusedVariables false

/-- The frame of readPoints: its twelve first slots. -/
structure RdFrame (v0 v1 s5 s6 s7 s8 s9 s10 s11 : Value) (act : Act) : Prop where
  size : act.tmps.size = 104
  defers : act.defers = []
  h0 : act.tmps.getD 0 undef = v0
  h1 : act.tmps.getD 1 undef = v1
  h2 : act.tmps.getD 2 undef = undef
  h3 : act.tmps.getD 3 undef = undef
  h4 : act.tmps.getD 4 undef = .int .i64 0
  h5 : act.tmps.getD 5 undef = s5
  h6 : act.tmps.getD 6 undef = s6
  h7 : act.tmps.getD 7 undef = s7
  h8 : act.tmps.getD 8 undef = s8
  h9 : act.tmps.getD 9 undef = s9
  h10 : act.tmps.getD 10 undef = s10
  h11 : act.tmps.getD 11 undef = s11

theorem RdFrame.lit {v0 v1 s5 s6 s7 s8 s9 s10 s11 : Value} {act : Act} (h : RdFrame v0 v1 s5 s6 s7 s8 s9 s10 s11 act) :
    ∃ u : Nat → Value, act = { tmps := #[v0, v1, undef, undef, .int .i64 0, s5, s6, s7, s8, s9, s10, s11, u 12, u 13, u 14, u 15, u 16, u 17, u 18, u 19, u 20, u 21, u 22, u 23, u 24, u 25, u 26, u 27, u 28, u 29, u 30, u 31, u 32, u 33, u 34, u 35, u 36, u 37, u 38, u 39, u 40, u 41, u 42, u 43, u 44, u 45, u 46, u 47, u 48, u 49, u 50, u 51, u 52, u 53, u 54, u 55, u 56, u 57, u 58, u 59, u 60, u 61, u 62, u 63, u 64, u 65, u 66, u 67, u 68, u 69, u 70, u 71, u 72, u 73, u 74, u 75, u 76, u 77, u 78, u 79, u 80, u 81, u 82, u 83, u 84, u 85, u 86, u 87, u 88, u 89, u 90, u 91, u 92, u 93, u 94, u 95, u 96, u 97, u 98, u 99, u 100, u 101, u 102, u 103], defers := [] } := by
  obtain ⟨tmps, defers⟩ := act
  obtain ⟨hs, hd, h0, h1, h2, h3, h4, h5, h6, h7, h8, h9, h10, h11⟩ := h
  have hd' : defers = [] := hd
  subst hd'
  have key : tmps = #[tmps.getD 0 undef, tmps.getD 1 undef, tmps.getD 2 undef, tmps.getD 3 undef, tmps.getD 4 undef, tmps.getD 5 undef, tmps.getD 6 undef, tmps.getD 7 undef, tmps.getD 8 undef, tmps.getD 9 undef, tmps.getD 10 undef, tmps.getD 11 undef, tmps.getD 12 undef, tmps.getD 13 undef, tmps.getD 14 undef, tmps.getD 15 undef, tmps.getD 16 undef, tmps.getD 17 undef, tmps.getD 18 undef, tmps.getD 19 undef, tmps.getD 20 undef, tmps.getD 21 undef, tmps.getD 22 undef, tmps.getD 23 undef, tmps.getD 24 undef, tmps.getD 25 undef, tmps.getD 26 undef, tmps.getD 27 undef, tmps.getD 28 undef, tmps.getD 29 undef, tmps.getD 30 undef, tmps.getD 31 undef, tmps.getD 32 undef, tmps.getD 33 undef, tmps.getD 34 undef, tmps.getD 35 undef, tmps.getD 36 undef, tmps.getD 37 undef, tmps.getD 38 undef, tmps.getD 39 undef, tmps.getD 40 undef, tmps.getD 41 undef, tmps.getD 42 undef, tmps.getD 43 undef, tmps.getD 44 undef, tmps.getD 45 undef, tmps.getD 46 undef, tmps.getD 47 undef, tmps.getD 48 undef, tmps.getD 49 undef, tmps.getD 50 undef, tmps.getD 51 undef, tmps.getD 52 undef, tmps.getD 53 undef, tmps.getD 54 undef, tmps.getD 55 undef, tmps.getD 56 undef, tmps.getD 57 undef, tmps.getD 58 undef, tmps.getD 59 undef, tmps.getD 60 undef, tmps.getD 61 undef, tmps.getD 62 undef, tmps.getD 63 undef, tmps.getD 64 undef, tmps.getD 65 undef, tmps.getD 66 undef, tmps.getD 67 undef, tmps.getD 68 undef, tmps.getD 69 undef, tmps.getD 70 undef, tmps.getD 71 undef, tmps.getD 72 undef, tmps.getD 73 undef, tmps.getD 74 undef, tmps.getD 75 undef, tmps.getD 76 undef, tmps.getD 77 undef, tmps.getD 78 undef, tmps.getD 79 undef, tmps.getD 80 undef, tmps.getD 81 undef, tmps.getD 82 undef, tmps.getD 83 undef, tmps.getD 84 undef, tmps.getD 85 undef, tmps.getD 86 undef, tmps.getD 87 undef, tmps.getD 88 undef, tmps.getD 89 undef, tmps.getD 90 undef, tmps.getD 91 undef, tmps.getD 92 undef, tmps.getD 93 undef, tmps.getD 94 undef, tmps.getD 95 undef, tmps.getD 96 undef, tmps.getD 97 undef, tmps.getD 98 undef, tmps.getD 99 undef, tmps.getD 100 undef, tmps.getD 101 undef, tmps.getD 102 undef, tmps.getD 103 undef] := frame_arr tmps 104 hs
  simp only at h0 h1 h2 h3 h4 h5 h6 h7 h8 h9 h10 h11
  rw [h0, h1, h2, h3, h4, h5, h6, h7, h8, h9, h10, h11] at key
  exact ⟨fun i => tmps.getD i undef, congrArg (fun t => Act.mk t []) key⟩

/-- The room: its first places hold 'out'. -/
def RdRoom (B g n : Nat) (w w' : World) (out : List Int) : Prop :=
  ∃ zs, Own B 3 .i64 w' (.slice (some ⟨g, 0, none⟩) n n) zs ∧ zs.length = n ∧ zs.take out.length = out ∧ w.grownBy w' (some g)

/-- What is known at each label, beside the frame and the room: of the place i, what is out, the point, how many are left, the bounds. -/
def RdHas (xs : List Int) (i : Nat) (out : List Int) (s7 s8 s10 s11 : Value) : Nat → Prop
  | 0 => out.length ≤ i ∧ out ++ dec (xs.drop i) = dec xs
  | 1 => out.length + 1 ≤ i ∧ ∃ p, s7 = .int .i64 p ∧ out ++ p :: dec (xs.drop i) = dec xs
  | 2 => out.length + 1 ≤ i ∧ out ++ 65533 :: dec (xs.drop i) = dec xs
  | 3 => out.length + 1 ≤ i ∧ ∃ (p : Int) (k : Nat) (lo hi : Int), s7 = .int .i64 p ∧ s8 = .int .i64 ((k : Int) + 1) ∧ s10 = .int .u8 lo ∧ s11 = .int .u8 hi ∧ 128 ≤ lo ∧ hi ≤ 191 ∧ 0 ≤ p ∧ k ≤ 2 ∧ (p + 1) * 64 ^ (k + 1) ≤ 1073741824 ∧
        out ++ (tailOf p (k + 1) lo hi (xs.drop i)).1 :: dec (tailOf p (k + 1) lo hi (xs.drop i)).2 = dec xs
  | _ => False

/-- What holds at each label. -/
def RdAt (B g n : Nat) (v1 : Value) (xs : List Int) (w : World) (l : Nat) (act : Act) (w' : World) : Prop :=
  ∃ (i : Nat) (out : List Int) (s7 s8 s9 s10 s11 : Value), RdFrame (.slice (some ⟨g, 0, none⟩) n n) v1 (.int .i64 i) (.int .i64 out.length) s7 s8 s9 s10 s11 act ∧ RdRoom B g n w w' out ∧ i ≤ xs.length ∧ RdHas xs i out s7 s8 s10 s11 l

/-- How much is still to do at a label. -/
def rdLeft (n : Nat) (l : Nat) (act : Act) (_ : World) : Nat := 8 * (n - (intOf (act.tmps.getD 5 undef)).toNat) + l

theorem rdLeft_eq {v0 v1 s6 s7 s8 s9 s10 s11 : Value} {i n l : Nat} {act : Act} {w : World} (h : RdFrame v0 v1 (.int .i64 i) s6 s7 s8 s9 s10 s11 act) : rdLeft n l act w = 8 * (n - i) + l := by
  unfold rdLeft; rw [h.h5]; simp [intOf]

theorem rdAt_lt {B g n : Nat} {v1 : Value} {xs : List Int} {w : World} (l : Nat) (act : Act) (w' : World) (h : RdAt B g n v1 xs w l act w') : l < 4 := by
  obtain ⟨i, out, s7, s8, s9, s10, s11, _, _, _, h⟩ := h
  match l, h with
  | 0, _ => omega
  | 1, _ => omega
  | 2, _ => omega
  | 3, _ => omega

theorem rdJump {B g n l M i : Nat} {v1 s7 s8 s9 s10 s11 : Value} {xs out : List Int} {w w' : World} {act : Act}
    (hF : RdFrame (.slice (some ⟨g, 0, none⟩) n n) v1 (.int .i64 i) (.int .i64 out.length) s7 s8 s9 s10 s11 act) (hr : RdRoom B g n w w' out) (hi : i ≤ xs.length) (hh : RdHas xs i out s7 s8 s10 s11 l)
    (hM : 8 * (xs.length - i) + l < M) : lower (RdAt B g n v1 xs w) (rdLeft xs.length) M l act w' :=
  ⟨⟨i, out, s7, s8, s9, s10, s11, hF, hr, hi, hh⟩, by rw [rdLeft_eq hF]; exact hM⟩

theorem rdFall {B g n l M i : Nat} {v1 s7 s8 s9 s10 s11 : Value} {xs out : List Int} {w w' : World} {act : Act} {P : Program} {s : Code} {Q : Exit → Act → World → Prop}
    (H : ∀ a w', RdAt B g n v1 xs w l a w' → rdLeft xs.length l a w' ≤ M → s.wp P Q a w')
    (hF : RdFrame (.slice (some ⟨g, 0, none⟩) n n) v1 (.int .i64 i) (.int .i64 out.length) s7 s8 s9 s10 s11 act) (hr : RdRoom B g n w w' out) (hi : i ≤ xs.length) (hh : RdHas xs i out s7 s8 s10 s11 l)
    (hM : 8 * (xs.length - i) + l ≤ M) : s.wp P Q act w' :=
  H _ _ ⟨i, out, s7, s8, s9, s10, s11, hF, hr, hi, hh⟩ (by rw [rdLeft_eq hF]; exact hM)

theorem RdRoom.put {B g n : Nat} {w w' : World} {out : List Int} (h : RdRoom B g n w w' out) (hl : out.length < n) (p : Int) :
    (∃ z, w'.cell? ⟨g, out.length, none⟩ = some (.int .i64 z)) ∧ w'.frozen? ⟨g, out.length, none⟩ = false ∧ RdRoom B g n w (w'.setCell ⟨g, out.length, none⟩ (.int .i64 p)) (out ++ [p]) := by
  obtain ⟨zs, ho, hz, ht, hg⟩ := h
  unfold Own at ho
  rw [hz] at ho
  have hk : out.length < zs.length := by omega
  refine ⟨?_, ho.frozenAt _, zs.set out.length p, ?_, by simpa using hz, ?_, grown_trans hg (ho.stored _ _).2⟩
  · have hc := ho.cellAt out.length (by omega)
    rw [hc, List.getElem?_map, List.getElem?_eq_getElem hk]; exact ⟨_, rfl⟩
  · unfold Own
    rw [List.length_set, hz, List.map_set]; exact (ho.stored _ _).1
  · rw [List.length_append, List.length_singleton, List.take_succ_eq_append_getElem (by simpa using hk), List.getElem_set_self, List.take_set_of_le (Nat.le_refl _), ht]

end Go.Proofs.Ytiejfnnokfedkaa
