/- Attributes as pairs of strings, and contracts of the specification's functions on them. -/
import Derived.Test.YthdfhckmgneioaaGreatHelpA
import Derived.Test.YthdfhckmgneioaaGreatSName
namespace Go.Proofs.YthdfhckmgneioaaGreat
open Go.RowKit
set_option maxRecDepth 100000
set_option linter.unusedVariables false

/-- The value of the first of that name, and true; nothing and false when there is none. -/
def attrOf : List (ByteArray × ByteArray) → ByteArray → ByteArray × Bool
  | [], _ => (⟨#[]⟩, false)
  | p :: ps, nm => if p.1 = nm then (p.2, true) else attrOf ps nm
def attrOk (p : ByteArray × ByteArray) : Bool := inB p.1.size 1 60 && decide (p.2.size ≤ 3000) && utfOk (bs p.1) && utfOk (bs p.2)
/-- The first i are right, and no two of them have one name. -/
def attrsTo (rs : List (ByteArray × ByteArray)) : Bool := rs.all attrOk && decide (rs.Pairwise fun p q => p.1 ≠ q.1)
def attrsOk (rs : List (ByteArray × ByteArray)) : Bool := decide (rs.length ≤ 20) && attrsTo rs
def attrAdd (rs : List (ByteArray × ByteArray)) (a : ByteArray × ByteArray) : List (ByteArray × ByteArray) := if (attrOf rs a.1).2 || decide (20 ≤ rs.length) || !attrOk a then rs else rs ++ [a]
def attrsSame (a b : List (ByteArray × ByteArray)) : Bool := decide (a.length = b.length) && a.all fun p => decide (attrOf b p.1 = (p.2, true))

theorem attrOf_drop {rs : List (ByteArray × ByteArray)} {nm : ByteArray} {k : Nat} (h : k < rs.length) : attrOf (rs.drop k) nm = if rs[k].1 = nm then (rs[k].2, true) else attrOf (rs.drop (k + 1)) nm := by
  rw [List.drop_eq_getElem_cons h]; rfl

set_option maxHeartbeats 1000000 in
set_option maxRecDepth 100000 in
theorem l4Attr_any (p : ByteArray × ByteArray) (w : World) (h1 : p.1.size ≤ 1099511627776) (h2 : p.2.size ≤ 1099511627776) :
    Calls Tryz.prog 96 #[.agg #[.string p.1, .string p.2]] w fun e w' => e = .returned (.bool (attrOk p)) ∧ Below w.heap.size w w' := by
  obtain ⟨n, v⟩ := p
  simp only at h1 h2 ⊢
  have c1 := fun w => l1In_any n.size 1 60 w
  have c2 := fun w => l1Ok_any n w h1
  have c3 := fun w => l1Ok_any v w h2
  have b1 : Below w.heap.size w (w.alloc (.cells #[.string n, .string v] 110)) := (Below.refl _ _).alloc (Nat.le_refl _) _
  obtain ⟨q1, e1⟩ : ∃ q, q = inB n.size 1 60 := ⟨_, rfl⟩
  obtain ⟨q2, e2⟩ : ∃ q, q = utfOk (bs n) := ⟨_, rfl⟩
  obtain ⟨q3, e3⟩ : ∃ q, q = utfOk (bs v) := ⟨_, rfl⟩
  have hv : attrOk (n, v) = (q1 && decide (v.size ≤ 3000) && q2 && q3) := by rw [e1, e2, e3]; rfl
  rw [hv]
  rw [← e1] at c1
  rw [← e2] at c2
  rw [← e3] at c3
  have C1 := (show Hid _ from c1)
  have C2 := (show Hid _ from c2)
  have C3 := (show Hid _ from c3)
  clear c1 c2 c3 e1 e2 e3 hv
  cases q1
  · go_enter Tryz.func96, Tryz.ntmps96
    go_wp2_with fail
    go_at_call 35
    refine (C1.out _).mono ?_
    rintro e w1 ⟨rfl, rfl⟩
    go_wp2
    go_ret
    exact ⟨ret_bool (by simp), b1⟩
  · by_cases hv : v.size ≤ 3000
    · cases q2
      · go_enter Tryz.func96, Tryz.ntmps96
        go_wp2_with fail
        go_at_call 35
        refine (C1.out _).mono ?_
        rintro e w1 ⟨rfl, rfl⟩
        go_wp2_with fail
        go_at_call 74
        refine (C2.out _).mono ?_
        rintro e w2 ⟨rfl, b2⟩
        replace b2 := b1.trans (b2.mono b1.size)
        go_wp2
        go_ret
        exact ⟨ret_bool (by simp), b2⟩
      · go_enter Tryz.func96, Tryz.ntmps96
        go_wp2_with fail
        go_at_call 35
        refine (C1.out _).mono ?_
        rintro e w1 ⟨rfl, rfl⟩
        go_wp2_with fail
        go_at_call 74
        refine (C2.out _).mono ?_
        rintro e w2 ⟨rfl, b2⟩
        have d1 : w2.cell? ⟨w.heap.size, 1, none⟩ = some (.string v) := by
          rw [b2.cell (p := ⟨w.heap.size, 1, none⟩) (by simp)]
          simp
        replace b2 := b1.trans (b2.mono b1.size)
        go_wp2_with fail
        go_at_call 74
        refine (C3.out _).mono ?_
        rintro e w3 ⟨rfl, b3⟩
        replace b3 := b2.trans (b3.mono b2.size)
        go_wp2
        go_ret
        exact ⟨ret_bool (by simp [hv]), b3⟩
    · go_enter Tryz.func96, Tryz.ntmps96
      go_wp2_with fail
      go_at_call 35
      refine (C1.out _).mono ?_
      rintro e w1 ⟨rfl, rfl⟩
      go_wp2
      go_ret
      exact ⟨ret_bool (by simp <;> omega), b1⟩
end Go.Proofs.YthdfhckmgneioaaGreat
