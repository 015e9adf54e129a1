/- The program's cutter: the page without what is no point, its place, and the states of plain text. -/
import Derived.Test.YtiojilmclocmkaaGreatDoorB1
import Derived.Test.YtiojilmclocmkaaGreatDoorB2
import Derived.Test.YtiojilmclocmkaaGreatDoorOk
import Derived.Test.YtiojilmclocmkaaGreatDoorB5
import Derived.OwnWalk
namespace Go.Proofs.YtiojilmclocmkaaGreatDoor
open Go.RowKit
set_option maxRecDepth 100000
set_option linter.unusedVariables false

/-- A number of a page: what is no point counts as the stand-in, and so does 0. -/
def clean (x : Int) : Int := if x = 0 ∨ pointOk x = false then 65533 else x
theorem clean_ok (x : Int) : pointOk (clean x) = true ∧ clean x ≠ 0 := by
  unfold clean
  by_cases h : x = 0 ∨ pointOk x = false
  · rw [if_pos h]; decide
  · rw [if_neg h]
    refine ⟨?_, fun e => h (.inl e)⟩
    cases hp : pointOk x
    · exact absurd (.inr hp) h
    · rfl

theorem own_set {B g n cap : Nat} {e : TypeId} {K : IntKind} {w : World} {xs : List Int} (h : Own B e K w (.slice (some ⟨g, 0, none⟩) n cap) xs) (hn : n = xs.length) (k : Nat) (hk : k < xs.length) (x : Int) :
    w.cell? ⟨g, k, none⟩ = some (.int K (xs.getD k 0)) ∧ w.frozen? ⟨g, k, none⟩ = false ∧ Own B e K (w.setCell ⟨g, k, none⟩ (.int K x)) (.slice (some ⟨g, 0, none⟩) n cap) (xs.set k x) ∧
      w.grownBy (w.setCell ⟨g, k, none⟩ (.int K x)) (some g) := by
  subst hn
  unfold Own at h ⊢
  have hs := h.stored k (.int K x)
  refine ⟨?_, h.frozenAt k, ?_, hs.2⟩
  · rw [h.cellAt k (by omega)]
    simp [hk]
  · rw [List.length_set, List.map_set]; exact hs.1

/-- The first k of a list as they are when cleaned, the others as they were. -/
def mix (xs : List Int) (k : Nat) : List Int := (xs.take k).map clean ++ xs.drop k
theorem mix_len (xs : List Int) (k : Nat) : (mix xs k).length = xs.length := by unfold mix; simp; omega
theorem mix_at (xs : List Int) (k : Nat) (h : k < xs.length) : (mix xs k).getD k 0 = xs[k] := by
  unfold mix
  have hl : ((xs.take k).map clean).length = k := by simp; omega
  rw [List.getD_eq_getElem?_getD, List.getElem?_append_right (by omega), hl]
  simp [h]
theorem mix_succ (xs : List Int) (k : Nat) (h : k < xs.length) : mix xs (k + 1) = (mix xs k).set k (clean xs[k]) := by
  unfold mix
  have hl : ((xs.take k).map clean).length = k := by simp; omega
  rw [List.set_append_right _ _ (by omega), hl, Nat.sub_self, List.drop_eq_getElem_cons h, List.take_succ_eq_append_getElem h, List.map_append, List.append_assoc]
  rfl
theorem mix_zero (xs : List Int) : mix xs 0 = xs := by unfold mix; simp
theorem mix_all (xs : List Int) : mix xs xs.length = xs.map clean := by unfold mix; simp
theorem mix_same (xs : List Int) (k : Nat) (h : k < xs.length) (e : clean xs[k] = xs[k]) : mix xs (k + 1) = mix xs k := by
  rw [mix_succ xs k h, e]
  have := mix_at xs k h
  have hl := mix_len xs k
  apply List.ext_getElem?
  intro j
  rw [List.getElem?_set]
  split
  · rename_i hj; subst hj
    rw [if_pos (by omega)]
    rw [List.getD_eq_getElem?_getD] at this
    have hk2 : k < (mix xs k).length := by omega
    rw [List.getElem?_eq_getElem hk2] at this ⊢
    simpa using this.symm
  · rfl

set_option maxHeartbeats 1000000 in
theorem cleanPoints_any {v : Value} {xs : List Int} {w : World} (h : Sl .i64 w v xs) (hn : xs.length ≤ 1048576) :
    Calls Tryz.prog 15 #[v] w fun e w' => ∃ v', e = .returned v' ∧ Own w.heap.size 3 .i64 w' v' (xs.map clean) ∧ Below w.heap.size w w' := by
  go_enter Tryz.func15, Tryz.ntmps15
  go_wp2_with fail
  go_at_call 28
  refine (copyOf_any h (by omega)).mono ?_
  rintro e w1 ⟨u, rfl, o1, b1⟩
  clear h
  rw [← mix_zero xs] at o1
  have hml : (mix xs 0).length = xs.length := mix_len xs 0
  obtain ⟨a, ca, eu, _, _, _, _⟩ := o1.sl
  rw [hml] at eu
  subst eu
  rename_i c1 c2 c3 c4
  clear c1 c2 c3 c4 hml
  go_wp2
  go_loopw [10] (fun i wr => ∃ k : Nat, k ≤ xs.length ∧ i = .int .i64 k ∧ Own w.heap.size 3 .i64 wr (.slice a xs.length ca) (mix xs k) ∧ Below w.heap.size w wr) (fun i _ => xs.length - (intOf i).toNat)
  case atStart => exact ⟨0, Nat.zero_le _, rfl, o1, b1⟩
  case round =>
    clear o1 b1
    obtain ⟨k, hk, rfl, own, bel⟩ := hrel
    by_cases hlt : k < xs.length
    · rcases own.shape with ⟨_, hnil⟩ | ⟨g, cp, e, hB, hg, hl, hm⟩
      · have := mix_len xs k; rw [hnil] at this; simp at this; omega
      rw [mix_len] at e
      cases e
      obtain ⟨c1, f1, o2, g2⟩ := own_set own (mix_len xs k).symm k (by rw [mix_len]; exact hlt) 65533
      rw [mix_at xs k hlt] at c1
      have H2 := (show Hid _ from o2)
      have HG := (show Hid _ from g2)
      have HO := (show Hid _ from own)
      clear o2 g2 own hm hl
      by_cases hz : xs[k] = 0
      · have hc : clean xs[k] = 65533 := by unfold clean; rw [if_pos (.inl hz)]
        have hs := mix_succ xs k hlt
        rw [hc] at hs
        have HS := (show Hid _ from hs)
        rw [hz] at c1
        clear hs hc hz
        go_wp2
        go_roundw
        case rel => exact ⟨k + 1, by omega, by go_num, by rw [HS.out]; exact H2.out, bel.grown HG.out bel.size (fun j hj => by cases hj; exact hB)⟩
        case measure => simp [intOf]; omega
      · have hz2 : (xs[k] == 0) = false := by simpa using hz
        go_wp2_with fail
        go_at_call 29
        refine (iok_any _ _).mono ?_
        rintro e w3 ⟨rfl, rfl⟩
        rcases hp : pointOk xs[k] with _ | _
        · have hc : clean xs[k] = 65533 := by unfold clean; rw [if_pos (.inr hp)]
          have hs := mix_succ xs k hlt
          rw [hc] at hs
          have HS := (show Hid _ from hs)
          clear hs hc hz hp
          go_wp2
          go_roundw
          case rel => exact ⟨k + 1, by omega, by go_num, by rw [HS.out]; exact H2.out, bel.grown HG.out bel.size (fun j hj => by cases hj; exact hB)⟩
          case measure => simp [intOf]; omega
        · have hc : clean xs[k] = xs[k] := by unfold clean; rw [if_neg (by rw [hp]; simp [hz])]
          have HS := (show Hid _ from mix_same xs k hlt hc)
          clear hc hz hp
          go_wp2
          go_roundw
          case rel => exact ⟨k + 1, by omega, by go_num, by rw [HS.out]; exact HO.out, bel⟩
          case measure => simp [intOf]; omega
    · go_wp2
      go_ret
      have hke : k = xs.length := by omega
      rw [hke, mix_all] at own
      exact ⟨_, rfl, own, bel⟩
end Go.Proofs.YtiojilmclocmkaaGreatDoor
