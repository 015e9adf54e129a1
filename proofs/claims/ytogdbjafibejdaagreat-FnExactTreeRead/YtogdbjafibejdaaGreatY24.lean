/- A tree among the arguments, opened as its nodes. -/
import Derived.Test.YtogdbjafibejdaaGreatY19
import Derived.ChangeSlices
import Derived.Test.YtogdbjafibejdaaGreatY20
import Derived.Test.YtogdbjafibejdaaGreatY21
import Derived.Test.YtogdbjafibejdaaGreatY17
namespace Go.Proofs.YtogdbjafibejdaaGreat
open Go.RowKit Go.ChangeShapes Go.WideShapes
set_option maxRecDepth 100000
set_option linter.unusedVariables false
section
variable {H : Type} {enc : TypeId × Value → H} {P : Program} {w : World} {base : Nat} {spare : Nat → Bool} {held : Bool}
end
end Go.Proofs.YtogdbjafibejdaaGreat

/- What stands below a node, in plain words. No condition. -/
namespace Go.Proofs.YtogdbjafibejdaaGreat
open Go.RowKit
set_option maxRecDepth 100000
set_option linter.unusedVariables false

def down (ns : List PNode) : Nat → Nat → List Int
  | 0, _ => []
  | f + 1, k => (k : Int) :: (kidsOf ns k).flatMap fun x => down ns f x.toNat
def deepOk (ns : List PNode) : Nat → Nat → Prop
  | 0, _ => False
  | f + 1, k => k < ns.length ∧ ∀ x ∈ kidsOf ns k, 0 ≤ x ∧ deepOk ns f x.toNat
end Go.Proofs.YtogdbjafibejdaaGreat

/- Contracts of the program's textOk and attrOk. -/
namespace Go.Proofs.YtogdbjafibejdaaGreat
open Go.RowKit
set_option maxRecDepth 100000
set_option linter.unusedVariables false

theorem textOk_any (s : ByteArray) (w : World) (hs : s.size ≤ 1099511627776) : Calls Tryz.prog 112 #[.string s] w fun e w' => e = .returned (.bool (utfOk (bs s))) ∧ Below w.heap.size w w' := by
  obtain ⟨cap, w1, hc, hk, hcap, hm, hb⟩ := conv_str s w (by unfold maxLen; omega)
  have hl := bs_len s
  have hsl := hk.sl (n := s.size) (cap := cap) (by omega) (by omega) hm
  have hu := iutfOk_any hsl (bs_byte s) (by omega)
  clear hk
  go_enter Tryz.func112, Tryz.ntmps112
  go_wp2_with fail
  go_at_call 153
  refine hu.mono ?_
  rintro e w2 ⟨rfl, b2⟩
  go_wp2
  go_ret
  exact ⟨rfl, hb.trans (b2.mono hb.size)⟩

theorem attrOk_eq (n v : ByteArray) : attrOk (n, v) = (inB n.size 1 60 && utfOk (bs n) && utfOk (bs v)) := by
  unfold attrOk
  simp only
  by_cases hv : v.size ≤ 3000
  · rw [decide_eq_true hv, Bool.and_true]
  · rw [decide_eq_false hv, utfOk_no (xs := bs v) (by rw [bs_len]; exact hv)]; simp

set_option maxHeartbeats 1000000 in
set_option maxRecDepth 100000 in
theorem iattrOk_any (n v : ByteArray) (w : World) (h1 : n.size ≤ 1099511627776) (h2 : v.size ≤ 1099511627776) :
    Calls Tryz.prog 157 #[.agg #[.string n, .string v]] w fun e w' => e = .returned (.bool (attrOk (n, v))) ∧ Below w.heap.size w w' := by
  rw [attrOk_eq]
  have c2 := fun w => textOk_any n w h1
  have c3 := fun w => textOk_any v w h2
  have b1 : Below w.heap.size w (w.alloc (.cells #[.string n, .string v] 115)) := (Below.refl _ _).alloc (Nat.le_refl _) _
  obtain ⟨q2, e2⟩ : ∃ q, q = utfOk (bs n) := ⟨_, rfl⟩
  obtain ⟨q3, e3⟩ : ∃ q, q = utfOk (bs v) := ⟨_, rfl⟩
  rw [← e2] at c2 ⊢
  rw [← e3] at c3 ⊢
  have C2 := (show Hid _ from c2)
  have C3 := (show Hid _ from c3)
  clear c2 c3 e2 e3
  by_cases hn : 1 ≤ n.size ∧ n.size ≤ 60
  · rw [inB_yes (by omega) (by omega), Bool.true_and]
    obtain ⟨n1, n2⟩ := hn
    cases q2
    · go_enter Tryz.func157, Tryz.ntmps157
      go_wp2_with fail
      go_at_call 112
      refine (C2.out _).mono ?_
      rintro e w2 ⟨rfl, b2⟩
      replace b2 := b1.trans (b2.mono b1.size)
      go_wp2
      go_ret
      exact ⟨ret_bool (by simp), b2⟩
    · go_enter Tryz.func157, Tryz.ntmps157
      go_wp2_with fail
      go_at_call 112
      refine (C2.out _).mono ?_
      rintro e w2 ⟨rfl, b2⟩
      have d1 : w2.cell? ⟨w.heap.size, 1, none⟩ = some (.string v) := by
        rw [b2.cell (p := ⟨w.heap.size, 1, none⟩) (by simp)]
        simp
      replace b2 := b1.trans (b2.mono b1.size)
      go_wp2_with fail
      go_at_call 112
      refine (C3.out _).mono ?_
      rintro e w3 ⟨rfl, b3⟩
      replace b3 := b2.trans (b3.mono b2.size)
      go_wp2
      go_ret
      exact ⟨ret_bool (by simp), b3⟩
  · rw [inB_no (by omega), Bool.false_and, Bool.false_and]
    by_cases n1 : n.size < 1
    · have n0 : n.size = 0 := by omega
      go_enter Tryz.func157, Tryz.ntmps157
      go_wp2
      go_ret
      exact ⟨ret_bool (by simp), b1⟩
    · have n2 : 60 < n.size := by omega
      go_enter Tryz.func157, Tryz.ntmps157
      go_wp2
      go_ret
      exact ⟨ret_bool (by simp), b1⟩
end Go.Proofs.YtogdbjafibejdaaGreat

/- Contracts of the specification's AttrsSame and AttrAdd. -/
namespace Go.Proofs.YtogdbjafibejdaaGreat
open Go.RowKit
set_option maxRecDepth 100000
set_option linter.unusedVariables false

theorem pair_oneCell (rs : List (ByteArray × ByteArray)) : ∀ y ∈ pairCells rs, y.oneCell' = true := by
  intro y hy
  unfold pairCells at hy
  obtain ⟨r, _, hr⟩ := List.mem_flatMap.mp hy
  simp at hr
  rcases hr with rfl | rfl <;> rfl
theorem pairCells_app (rs qs : List (ByteArray × ByteArray)) : pairCells rs ++ pairCells qs = pairCells (rs ++ qs) := by unfold pairCells; rw [List.flatMap_append]

end Go.Proofs.YtogdbjafibejdaaGreat
