/- The contract of readPoints: it reads from bytes the points that the plain function 'dec' tells, into a room that is long enough. -/
import Derived.Test.YtggfifchkecnjaaGreatDoorY6
import Derived.Test.YtggfifchkecnjaaGreatDoorY3
import Derived.Test.YtggfifchkecnjaaGreatDoorY2
namespace Go.Proofs.YtggfifchkecnjaaGreatDoor
open Go.RowKit
set_option maxRecDepth 100000
set_option linter.unusedVariables false

theorem sb_any (b : Int) (w : World) : Calls Tryz.prog 97 #[.int .u8 b] w fun e w' => e = .returned (.tuple #[.int .u8 (loOf b), .int .u8 (hiOf b)]) ∧ w' = w := by
  rcases (show b = 224 ∨ b = 237 ∨ b = 240 ∨ b = 244 ∨ (b ≠ 224 ∧ b ≠ 237 ∧ b ≠ 240 ∧ b ≠ 244) by omega) with rfl | rfl | rfl | rfl | ⟨h1, h2, h3, h4⟩
  · go_enter Tryz.func97, Tryz.ntmps97
    go_wp2
    go_ret2
    exact ⟨rfl, rfl⟩
  · go_enter Tryz.func97, Tryz.ntmps97
    go_wp2
    go_ret2
    exact ⟨rfl, rfl⟩
  · go_enter Tryz.func97, Tryz.ntmps97
    go_wp2
    go_ret2
    exact ⟨rfl, rfl⟩
  · go_enter Tryz.func97, Tryz.ntmps97
    go_wp2
    go_ret2
    exact ⟨rfl, rfl⟩
  · have e1 : (b == 224) = false := by simpa using h1
    have e2 : (b == 237) = false := by simpa using h2
    have e3 : (b == 240) = false := by simpa using h3
    have e4 : (b == 244) = false := by simpa using h4
    have hl : loOf b = 128 := by unfold loOf; rw [if_neg h1, if_neg h3]
    have hh : hiOf b = 191 := by unfold hiOf; rw [if_neg h2, if_neg h4]
    rw [hl, hh]
    clear h1 h2 h3 h4 hl hh
    go_enter Tryz.func97, Tryz.ntmps97
    go_wp2
    go_ret2
    exact ⟨rfl, rfl⟩

structure RdFrame (v0 v1 s5 s6 s7 s8 s9 s10 s11 : Value) (act : Act) : Prop where
  size : act.tmps.size = 104
  defers : act.defers = []
  h0 : act.tmps.getD 0 undef = v0
  h1 : act.tmps.getD 1 undef = v1
  h2 : act.tmps.getD 2 undef = undef
  h3 : act.tmps.getD 3 undef = undef
  h4 : act.tmps.getD 4 undef = .int .i64 0
  h5 : act.tmps.getD 5 undef = s5
  h6 : act.tmps.getD 6 undef = s6
  h7 : act.tmps.getD 7 undef = s7
  h8 : act.tmps.getD 8 undef = s8
  h9 : act.tmps.getD 9 undef = s9
  h10 : act.tmps.getD 10 undef = s10
  h11 : act.tmps.getD 11 undef = s11

theorem RdFrame.lit {v0 v1 s5 s6 s7 s8 s9 s10 s11 : Value} {act : Act} (h : RdFrame v0 v1 s5 s6 s7 s8 s9 s10 s11 act) :
    ∃ u : Nat → Value, act = { tmps := #[v0, v1, undef, undef, .int .i64 0, s5, s6, s7, s8, s9, s10, s11, u 12, u 13, u 14, u 15, u 16, u 17, u 18, u 19, u 20, u 21, u 22, u 23, u 24, u 25, u 26, u 27, u 28, u 29, u 30, u 31, u 32, u 33, u 34, u 35, u 36, u 37, u 38, u 39, u 40, u 41, u 42, u 43, u 44, u 45, u 46, u 47, u 48, u 49, u 50, u 51, u 52, u 53, u 54, u 55, u 56, u 57, u 58, u 59, u 60, u 61, u 62, u 63, u 64, u 65, u 66, u 67, u 68, u 69, u 70, u 71, u 72, u 73, u 74, u 75, u 76, u 77, u 78, u 79, u 80, u 81, u 82, u 83, u 84, u 85, u 86, u 87, u 88, u 89, u 90, u 91, u 92, u 93, u 94, u 95, u 96, u 97, u 98, u 99, u 100, u 101, u 102, u 103], defers := [] } := by
  obtain ⟨tmps, defers⟩ := act
  obtain ⟨hs, hd, h0, h1, h2, h3, h4, h5, h6, h7, h8, h9, h10, h11⟩ := h
  have hd' : defers = [] := hd
  subst hd'
  have key : tmps = #[tmps.getD 0 undef, tmps.getD 1 undef, tmps.getD 2 undef, tmps.getD 3 undef, tmps.getD 4 undef, tmps.getD 5 undef, tmps.getD 6 undef, tmps.getD 7 undef, tmps.getD 8 undef, tmps.getD 9 undef, tmps.getD 10 undef, tmps.getD 11 undef, tmps.getD 12 undef, tmps.getD 13 undef, tmps.getD 14 undef, tmps.getD 15 undef, tmps.getD 16 undef, tmps.getD 17 undef, tmps.getD 18 undef, tmps.getD 19 undef, tmps.getD 20 undef, tmps.getD 21 undef, tmps.getD 22 undef, tmps.getD 23 undef, tmps.getD 24 undef, tmps.getD 25 undef, tmps.getD 26 undef, tmps.getD 27 undef, tmps.getD 28 undef, tmps.getD 29 undef, tmps.getD 30 undef, tmps.getD 31 undef, tmps.getD 32 undef, tmps.getD 33 undef, tmps.getD 34 undef, tmps.getD 35 undef, tmps.getD 36 undef, tmps.getD 37 undef, tmps.getD 38 undef, tmps.getD 39 undef, tmps.getD 40 undef, tmps.getD 41 undef, tmps.getD 42 undef, tmps.getD 43 undef, tmps.getD 44 undef, tmps.getD 45 undef, tmps.getD 46 undef, tmps.getD 47 undef, tmps.getD 48 undef, tmps.getD 49 undef, tmps.getD 50 undef, tmps.getD 51 undef, tmps.getD 52 undef, tmps.getD 53 undef, tmps.getD 54 undef, tmps.getD 55 undef, tmps.getD 56 undef, tmps.getD 57 undef, tmps.getD 58 undef, tmps.getD 59 undef, tmps.getD 60 undef, tmps.getD 61 undef, tmps.getD 62 undef, tmps.getD 63 undef, tmps.getD 64 undef, tmps.getD 65 undef, tmps.getD 66 undef, tmps.getD 67 undef, tmps.getD 68 undef, tmps.getD 69 undef, tmps.getD 70 undef, tmps.getD 71 undef, tmps.getD 72 undef, tmps.getD 73 undef, tmps.getD 74 undef, tmps.getD 75 undef, tmps.getD 76 undef, tmps.getD 77 undef, tmps.getD 78 undef, tmps.getD 79 undef, tmps.getD 80 undef, tmps.getD 81 undef, tmps.getD 82 undef, tmps.getD 83 undef, tmps.getD 84 undef, tmps.getD 85 undef, tmps.getD 86 undef, tmps.getD 87 undef, tmps.getD 88 undef, tmps.getD 89 undef, tmps.getD 90 undef, tmps.getD 91 undef, tmps.getD 92 undef, tmps.getD 93 undef, tmps.getD 94 undef, tmps.getD 95 undef, tmps.getD 96 undef, tmps.getD 97 undef, tmps.getD 98 undef, tmps.getD 99 undef, tmps.getD 100 undef, tmps.getD 101 undef, tmps.getD 102 undef, tmps.getD 103 undef] := frame_arr tmps 104 hs
  simp only at h0 h1 h2 h3 h4 h5 h6 h7 h8 h9 h10 h11
  rw [h0, h1, h2, h3, h4, h5, h6, h7, h8, h9, h10, h11] at key
  exact ⟨fun i => tmps.getD i undef, congrArg (fun t => Act.mk t []) key⟩

def RdRoom (B g n : Nat) (w w' : World) (out : List Int) : Prop :=
  ∃ zs, Own B 3 .i64 w' (.slice (some ⟨g, 0, none⟩) n n) zs ∧ zs.length = n ∧ zs.take out.length = out ∧ w.grownBy w' (some g)

def RdHas (xs : List Int) (i : Nat) (out : List Int) (s7 s8 s10 s11 : Value) : Nat → Prop
  | 0 => out.length ≤ i ∧ out ++ dec (xs.drop i) = dec xs
  | 1 => out.length + 1 ≤ i ∧ ∃ p, s7 = .int .i64 p ∧ out ++ p :: dec (xs.drop i) = dec xs
  | 2 => out.length + 1 ≤ i ∧ out ++ 65533 :: dec (xs.drop i) = dec xs
  | 3 => out.length + 1 ≤ i ∧ ∃ (p : Int) (k : Nat) (lo hi : Int), s7 = .int .i64 p ∧ s8 = .int .i64 ((k : Int) + 1) ∧ s10 = .int .u8 lo ∧ s11 = .int .u8 hi ∧ 128 ≤ lo ∧ hi ≤ 191 ∧ 0 ≤ p ∧ k ≤ 2 ∧ (p + 1) * 64 ^ (k + 1) ≤ 1073741824 ∧
        out ++ (tailOf p (k + 1) lo hi (xs.drop i)).1 :: dec (tailOf p (k + 1) lo hi (xs.drop i)).2 = dec xs
  | _ => False

def RdAt (B g n : Nat) (v1 : Value) (xs : List Int) (w : World) (l : Nat) (act : Act) (w' : World) : Prop :=
  ∃ (i : Nat) (out : List Int) (s7 s8 s9 s10 s11 : Value), RdFrame (.slice (some ⟨g, 0, none⟩) n n) v1 (.int .i64 i) (.int .i64 out.length) s7 s8 s9 s10 s11 act ∧ RdRoom B g n w w' out ∧ i ≤ xs.length ∧ RdHas xs i out s7 s8 s10 s11 l

def rdLeft (n : Nat) (l : Nat) (act : Act) (_ : World) : Nat := 8 * (n - (intOf (act.tmps.getD 5 undef)).toNat) + l

theorem rdLeft_eq {v0 v1 s6 s7 s8 s9 s10 s11 : Value} {i n l : Nat} {act : Act} {w : World} (h : RdFrame v0 v1 (.int .i64 i) s6 s7 s8 s9 s10 s11 act) : rdLeft n l act w = 8 * (n - i) + l := by
  unfold rdLeft; rw [h.h5]; simp [intOf]

theorem rdAt_lt {B g n : Nat} {v1 : Value} {xs : List Int} {w : World} (l : Nat) (act : Act) (w' : World) (h : RdAt B g n v1 xs w l act w') : l < 4 := by
  obtain ⟨i, out, s7, s8, s9, s10, s11, _, _, _, h⟩ := h
  match l, h with
  | 0, _ => omega
  | 1, _ => omega
  | 2, _ => omega
  | 3, _ => omega

theorem rdJump {B g n l M i : Nat} {v1 s7 s8 s9 s10 s11 : Value} {xs out : List Int} {w w' : World} {act : Act}
    (hF : RdFrame (.slice (some ⟨g, 0, none⟩) n n) v1 (.int .i64 i) (.int .i64 out.length) s7 s8 s9 s10 s11 act) (hr : RdRoom B g n w w' out) (hi : i ≤ xs.length) (hh : RdHas xs i out s7 s8 s10 s11 l)
    (hM : 8 * (xs.length - i) + l < M) : lower (RdAt B g n v1 xs w) (rdLeft xs.length) M l act w' :=
  ⟨⟨i, out, s7, s8, s9, s10, s11, hF, hr, hi, hh⟩, by rw [rdLeft_eq hF]; exact hM⟩

theorem rdFall {B g n l M i : Nat} {v1 s7 s8 s9 s10 s11 : Value} {xs out : List Int} {w w' : World} {act : Act} {P : Program} {s : Code} {Q : Exit → Act → World → Prop}
    (H : ∀ a w', RdAt B g n v1 xs w l a w' → rdLeft xs.length l a w' ≤ M → s.wp P Q a w')
    (hF : RdFrame (.slice (some ⟨g, 0, none⟩) n n) v1 (.int .i64 i) (.int .i64 out.length) s7 s8 s9 s10 s11 act) (hr : RdRoom B g n w w' out) (hi : i ≤ xs.length) (hh : RdHas xs i out s7 s8 s10 s11 l)
    (hM : 8 * (xs.length - i) + l ≤ M) : s.wp P Q act w' :=
  H _ _ ⟨i, out, s7, s8, s9, s10, s11, hF, hr, hi, hh⟩ (by rw [rdLeft_eq hF]; exact hM)

theorem RdRoom.put {B g n : Nat} {w w' : World} {out : List Int} (h : RdRoom B g n w w' out) (hl : out.length < n) (p : Int) :
    (∃ z, w'.cell? ⟨g, out.length, none⟩ = some (.int .i64 z)) ∧ w'.frozen? ⟨g, out.length, none⟩ = false ∧ RdRoom B g n w (w'.setCell ⟨g, out.length, none⟩ (.int .i64 p)) (out ++ [p]) := by
  obtain ⟨zs, ho, hz, ht, hg⟩ := h
  unfold Own at ho
  rw [hz] at ho
  have hk : out.length < zs.length := by omega
  refine ⟨?_, ho.frozenAt _, zs.set out.length p, ?_, by simpa using hz, ?_, grown_trans hg (ho.stored _ _).2⟩
  · have hc := ho.cellAt out.length (by omega)
    rw [hc, List.getElem?_map, List.getElem?_eq_getElem hk]; exact ⟨_, rfl⟩
  · unfold Own
    rw [List.length_set, hz, List.map_set]; exact (ho.stored _ _).1
  · rw [List.length_append, List.length_singleton, List.take_succ_eq_append_getElem (by simpa using hk), List.getElem_set_self, List.take_set_of_le (Nat.le_refl _), ht]

set_option maxHeartbeats 4000000 in
theorem read_any {B g n m c : Nat} {a : Option Addr} {xs zs : List Int} {w : World} (hown : Own B 3 .i64 w (.slice (some ⟨g, 0, none⟩) n n) zs) (hz : zs.length = n)
    (hs : Sl .u8 w (.slice a m c) xs) (hb : ∀ x ∈ xs, 0 ≤ x ∧ x ≤ 255) (hne : ∀ b off, 0 < xs.length → a = some ⟨b, off, none⟩ → b ≠ g) (hn : xs.length ≤ n) (hn3 : n ≤ 3000) :
    Calls Tryz.prog 53 #[.slice (some ⟨g, 0, none⟩) n n, .slice a m c] w fun e w' => e = .returned (.int .i64 (dec xs).length) ∧ RdRoom B g n w w' (dec xs) := by
  obtain ⟨a', c', ev, hmc, hcm, hnone, ha⟩ := hs
  cases ev
  have hcell : ∀ w' out k, RdRoom B g n w w' out → k < xs.length → ∃ b off, a = some ⟨b, off, none⟩ ∧ w'.cell? ⟨b, off + k, none⟩ = some (.int .u8 (xs.getD k 0)) := by
    intro w' out k hr hk
    obtain ⟨b, off, e, hc⟩ := ha k hk
    obtain ⟨_, _, _, _, hg⟩ := hr
    exact ⟨b, off, e, hg.cell hc (by simpa using hne b off (by omega) e)⟩
  have HC : Hid (∀ w' out k, RdRoom B g n w w' out → k < xs.length → ∃ b off, a = some ⟨b, off, none⟩ ∧ w'.cell? ⟨b, off + k, none⟩ = some (.int .u8 (xs.getD k 0))) := hcell
  have HB : Hid (∀ k (h : k < xs.length), 0 ≤ xs[k] ∧ xs[k] ≤ 255) := fun k h => hb _ (List.getElem_mem h)
  have hR : RdRoom B g n w w [] := ⟨zs, hown, hz, by simp, World.grownBy.refl _ _⟩
  clear hcell ha hne hnone hb hown
  go_enter Tryz.func53, Tryz.ntmps53
  go_wp2_with fail
  refine wp_scope_four (RdAt B g n (.slice a xs.length c) xs w) (rdLeft xs.length) rfl rfl rfl rfl rdAt_lt ?_ ?_ ?_ ?_ ?_
  · intro h0
    have H0 := (show Hid _ from h0)
    clear h0
    go_wp2
    go_step3
    apply_assumption
    refine H0.out _ _ ?_
    exact ⟨0, [], _, _, _, _, _, ⟨rfl, rfl, rfl, rfl, rfl, rfl, rfl, rfl, rfl, rfl, rfl, rfl, rfl, rfl⟩, hR, Nat.zero_le _, ⟨Nat.le_refl _, rfl⟩⟩
  · rintro M act w' ⟨i, out, s7, s8, s9, s10, s11, hF, hr, hi, hio, p, rfl, hp⟩ hM
    rw [rdLeft_eq hF] at hM
    obtain ⟨u, rfl⟩ := hF.lit
    obtain ⟨⟨z, hc⟩, hf, hr'⟩ := hr.put (by omega) p
    have HP : Hid (out ++ p :: dec (xs.drop i) = dec xs) := hp
    clear hp hF
    go_wp2
    go_step3
    refine rdJump (i := i) (out := out ++ [p]) ⟨rfl, rfl, rfl, rfl, rfl, rfl, rfl, rfl, by simp [Array.getD], rfl, rfl, rfl, rfl, rfl⟩ hr' hi ⟨by simpa using hio, by rw [List.append_assoc]; exact HP.out⟩ (by omega)
  · rintro M h1 act w' ⟨i, out, s7, s8, s9, s10, s11, hF, hr, hi, hio, hp⟩ hM
    rw [rdLeft_eq hF] at hM
    obtain ⟨u, rfl⟩ := hF.lit
    have H1 := (show Hid _ from h1)
    have HP : Hid (out ++ 65533 :: dec (xs.drop i) = dec xs) := hp
    clear hp hF h1
    go_wp2
    go_step3
    apply_assumption
    exact rdFall H1.out (i := i) (out := out) ⟨rfl, rfl, rfl, rfl, rfl, rfl, rfl, (by first | rfl | go_num), rfl, rfl, (by first | rfl | go_num), rfl, rfl, rfl⟩ hr hi ⟨hio, 65533, rfl, HP.out⟩ (by omega)
  · rintro M act w' ⟨i, out, s7, s8, s9, s10, s11, hF, hr, hi, hio, p, k, lo, hi', rfl, rfl, rfl, rfl, hlo, hhi, hp0, hk2, hpk, hp⟩ hM
    rw [rdLeft_eq hF] at hM
    obtain ⟨u, rfl⟩ := hF.lit
    have HP : Hid (out ++ (tailOf p (k + 1) lo hi' (xs.drop i)).1 :: dec (tailOf p (k + 1) lo hi' (xs.drop i)).2 = dec xs) := hp
    have hpb : p ≤ 16777216 := by
      rcases (show k = 0 ∨ k = 1 ∨ k = 2 by omega) with rfl | rfl | rfl <;> omega
    have HK : Hid ((p + 1) * 64 ^ (k + 1) ≤ 1073741824) := hpk
    clear hp hF hpk
    by_cases hend : i = xs.length
    · have HE : Hid (i = xs.length) := hend
      have e1 : ((i : Int) == (xs.length : Int)) = true := by simp [hend]
      clear hend
      go_wp2
      go_step3
      refine rdJump (i := i) (out := out) ⟨rfl, rfl, rfl, rfl, rfl, rfl, rfl, (by first | rfl | go_num), rfl, rfl, (by first | rfl | go_num), rfl, rfl, rfl⟩ hr hi ⟨hio, ?_⟩ (by omega)
      have h := HP.out
      rw [List.drop_eq_nil_of_le (by rw [HE.out]; exact Nat.le_refl _), tail_end] at h
      rw [List.drop_eq_nil_of_le (by rw [HE.out]; exact Nat.le_refl _)]; exact h
    · have hlt : i < xs.length := by omega
      have e1 : ((i : Int) == (xs.length : Int)) = false := by simp; omega
      obtain ⟨b1, o1, rfl, c1⟩ := HC.out w' out i hr hlt
      have hx := HB.out i hlt
      have hd : xs.drop i = xs[i] :: xs.drop (i + 1) := List.drop_eq_getElem_cons hlt
      have HD : Hid (xs.drop i = xs[i] :: xs.drop (i + 1)) := hd
      clear hd hend
      rcases (show xs[i] < lo ∨ (lo ≤ xs[i] ∧ hi' < xs[i]) ∨ (lo ≤ xs[i] ∧ xs[i] ≤ hi') by omega) with h1 | ⟨h1, h2⟩ | ⟨h1, h2⟩
      · go_wp2
        go_step3
        refine rdJump (i := i) (out := out) ⟨rfl, rfl, rfl, rfl, rfl, rfl, rfl, (by first | rfl | go_num), rfl, rfl, (by first | rfl | go_num), rfl, rfl, rfl⟩ hr hi ⟨hio, ?_⟩ (by omega)
        have h := HP.out
        rw [HD.out, tail_out p k _ (.inl h1)] at h
        rw [HD.out]; exact h
      · go_wp2
        go_step3
        refine rdJump (i := i) (out := out) ⟨rfl, rfl, rfl, rfl, rfl, rfl, rfl, (by first | rfl | go_num), rfl, rfl, (by first | rfl | go_num), rfl, rfl, rfl⟩ hr hi ⟨hio, ?_⟩ (by omega)
        have h := HP.out
        rw [HD.out, tail_out p k _ (.inr h2)] at h
        rw [HD.out]; exact h
      · have h3 := HP.out
        rw [HD.out, tail_in p k _ h1 h2] at h3
        have HQ : Hid (out ++ (tailOf (p * 64 + xs[i] - 128) k 128 191 (xs.drop (i + 1))).1 :: dec (tailOf (p * 64 + xs[i] - 128) k 128 191 (xs.drop (i + 1))).2 = dec xs) := h3
        clear h3
        by_cases hk0 : k = 0
        · subst hk0
          go_wp2
          go_step3
          exact rdJump (i := i + 1) (out := out) ⟨rfl, rfl, rfl, rfl, rfl, rfl, rfl, (by first | rfl | go_num), rfl, rfl, (by first | rfl | go_num), rfl, rfl, rfl⟩ hr hlt ⟨by omega, _, rfl, HQ.out⟩ (by omega)
        · obtain ⟨j, rfl⟩ : ∃ j, k = j + 1 := ⟨k - 1, by omega⟩
          go_wp2
          go_step3
          refine rdJump (i := i + 1) (out := out) ⟨rfl, rfl, rfl, rfl, rfl, rfl, rfl, (by first | rfl | go_num), rfl, rfl, (by first | rfl | go_num), rfl, rfl, rfl⟩ hr hlt ⟨by omega, p * 64 + xs[i] - 128, j, 128, 191, rfl, (by go_num), rfl, rfl, by omega, by omega, by omega, by omega, ?_, HQ.out⟩ (by omega)
          have h := HK.out
          rw [Int.pow_succ 64 (j + 1)] at h
          refine Int.le_trans ?_ h
          rw [Int.mul_comm ((64 : Int) ^ (j + 1)) 64, ← Int.mul_assoc]
          exact Int.mul_le_mul_of_nonneg_right (by omega) (Int.pow_nonneg (by omega))
  · rintro M h3 act w' ⟨i, out, s7, s8, s9, s10, s11, hF, hr, hi, hio, hp⟩ hM
    rw [rdLeft_eq hF] at hM
    obtain ⟨u, rfl⟩ := hF.lit
    have H3 := (show Hid _ from h3)
    have HP : Hid (out ++ dec (xs.drop i) = dec xs) := hp
    clear hp hF h3
    by_cases hend : i = xs.length
    · have HE : Hid (i = xs.length) := hend
      have e1 : ((i : Int) == (xs.length : Int)) = true := by simp [hend]
      clear hend
      go_wp2
      rw [jumps_ret]
      go_ret
      have h := HP.out
      rw [List.drop_eq_nil_of_le (by rw [HE.out]; exact Nat.le_refl _), dec_nil, List.append_nil] at h
      rw [← h]
      exact ⟨rfl, hr⟩
    · have hlt : i < xs.length := by omega
      have e1 : ((i : Int) == (xs.length : Int)) = false := by simp; omega
      obtain ⟨b1, o1, rfl, c1⟩ := HC.out w' out i hr hlt
      have hx := HB.out i hlt
      have hd : xs.drop i = xs[i] :: xs.drop (i + 1) := List.drop_eq_getElem_cons hlt
      have HQ : Hid (out ++ dec (xs[i] :: xs.drop (i + 1)) = dec xs) := by have h := HP.out; rw [hd] at h; exact h
      clear hd hend HP
      rcases (show xs[i] < 128 ∨ (128 ≤ xs[i] ∧ xs[i] < 194) ∨ 244 < xs[i] ∨ (194 ≤ xs[i] ∧ xs[i] ≤ 223) ∨ (224 ≤ xs[i] ∧ xs[i] ≤ 239) ∨ (240 ≤ xs[i] ∧ xs[i] ≤ 244) by omega) with h1 | ⟨h1, h2⟩ | h1 | ⟨h1, h2⟩ | ⟨h1, h2⟩ | ⟨h1, h2⟩
      · go_wp2
        go_step3
        exact rdJump (i := i + 1) (out := out) ⟨rfl, rfl, rfl, rfl, rfl, rfl, rfl, (by first | rfl | go_num), rfl, rfl, (by first | rfl | go_num), rfl, rfl, rfl⟩ hr hlt ⟨by omega, _, rfl, by rw [← dec_ascii _ h1]; exact HQ.out⟩ (by omega)
      · go_wp2
        go_step3
        exact rdJump (i := i + 1) (out := out) ⟨rfl, rfl, rfl, rfl, rfl, rfl, rfl, (by first | rfl | go_num), rfl, rfl, (by first | rfl | go_num), rfl, rfl, rfl⟩ hr hlt ⟨by omega, by rw [← dec_bad _ (.inl ⟨h1, h2⟩)]; exact HQ.out⟩ (by omega)
      · go_wp2
        go_step3
        exact rdJump (i := i + 1) (out := out) ⟨rfl, rfl, rfl, rfl, rfl, rfl, rfl, (by first | rfl | go_num), rfl, rfl, (by first | rfl | go_num), rfl, rfl, rfl⟩ hr hlt ⟨by omega, by rw [← dec_bad _ (.inr h1)]; exact HQ.out⟩ (by omega)
      · have hlh := lo_hi xs[i]
        go_wp2_with (go_at_call 97; refine (sb_any _ _).mono ?_; rintro e w2 ⟨rfl, rfl⟩)
        go_step3
        apply_assumption
        refine rdFall H3.out (i := i + 1) (out := out) ⟨rfl, rfl, rfl, rfl, rfl, rfl, rfl, (by first | rfl | go_num), rfl, rfl, (by first | rfl | go_num), rfl, rfl, rfl⟩ hr hlt ⟨by omega, xs[i] - 192, 0, loOf xs[i], hiOf xs[i], rfl, rfl, rfl, rfl, by omega, by omega, by omega, by omega, by omega, ?_⟩ (by omega)
        have h := HQ.out
        rw [dec_two _ ⟨h1, h2⟩] at h
        exact h
      · have hlh := lo_hi xs[i]
        go_wp2_with (go_at_call 97; refine (sb_any _ _).mono ?_; rintro e w2 ⟨rfl, rfl⟩)
        go_step3
        apply_assumption
        refine rdFall H3.out (i := i + 1) (out := out) ⟨rfl, rfl, rfl, rfl, rfl, rfl, rfl, (by first | rfl | go_num), rfl, rfl, (by first | rfl | go_num), rfl, rfl, rfl⟩ hr hlt ⟨by omega, xs[i] - 224, 1, loOf xs[i], hiOf xs[i], rfl, rfl, rfl, rfl, by omega, by omega, by omega, by omega, by omega, ?_⟩ (by omega)
        have h := HQ.out
        rw [dec_three _ ⟨h1, h2⟩] at h
        exact h
      · have hlh := lo_hi xs[i]
        go_wp2_with (go_at_call 97; refine (sb_any _ _).mono ?_; rintro e w2 ⟨rfl, rfl⟩)
        go_step3
        apply_assumption
        refine rdFall H3.out (i := i + 1) (out := out) ⟨rfl, rfl, rfl, rfl, rfl, rfl, rfl, (by first | rfl | go_num), rfl, rfl, (by first | rfl | go_num), rfl, rfl, rfl⟩ hr hlt ⟨by omega, xs[i] - 240, 2, loOf xs[i], hiOf xs[i], rfl, rfl, rfl, rfl, by omega, by omega, by omega, by omega, by omega, ?_⟩ (by omega)
        have h := HQ.out
        rw [dec_four _ ⟨h1, h2⟩] at h
        exact h
end Go.Proofs.YtggfifchkecnjaaGreatDoor

/- Contracts of LinesOf, the program's and the specification's, and of copyOf, at every list of integers. -/
namespace Go.Proofs.YtggfifchkecnjaaGreatDoor
open Go.RowKit
set_option maxRecDepth 100000
set_option linter.unusedVariables false
theorem Tryz.sizeI : Option.map (fun x => x.size) (Tryz.prog.info? 3) = some 1 := by kernel_rfl

theorem copyOf_any {v : Value} {xs : List Int} {w : World} (h : Sl .i64 w v xs) (hn : xs.length ≤ 1099511627776) :
    Calls Tryz.prog 39 #[v] w fun e w' => ∃ v', e = .returned v' ∧ Own w.heap.size 3 .i64 w' v' xs ∧ Below w.heap.size w w' := by
  have h0 := h
  obtain ⟨a, ca, rfl, _, _, _, ha⟩ := h
  clear ha
  obtain ⟨i0, hi, hz0, hz1, hz2⟩ := info_parts Tryz.infoI
  go_enter Tryz.func39, Tryz.ntmps39
  go_wp2_with (first
    | (at_make; refine wpList_mkn _ rfl (.tmp 5) (.tmp 5) 24 rfl 3 i0 .i64 Tryz.underlying24 hi hz0 hz1 xs.length xs.length xs.length rfl rfl rfl rfl (by rw [hz2]; omega) (by unfold maxLen; omega) ?_; intro w1 hown hbel; have h1 := h0.below hbel)
    | (refine wpList_cp rfl (.tmp 7) (.tmp 8) 24 rfl 3 Tryz.underlying24 Tryz.sizeI w.heap.size .i64 _ _ _ xs rfl rfl hown h1 (by simp) ?_; intro w2 hown2 hgr2))
  go_ret
  exact ⟨_, rfl, hown2, hbel.grown hgr2 hbel.size hown.grownAt⟩

theorem sl_one (e : TypeId) (K : IntKind) (w : World) (x : Int) : Sl K (w.alloc (.cells #[.int K x] e)) (.slice (some ⟨w.heap.size, 0, none⟩) 1 1) [x] :=
  Own.sl (World.ownsRow_lit w #[Value.int K x] 1 (Nat.le_refl _) (by unfold maxLen; omega) rfl : Own w.heap.size e K _ _ [x])

end Go.Proofs.YtggfifchkecnjaaGreatDoor
