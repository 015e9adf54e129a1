/- The contract of the draw of a list of points with a place in it. -/
import Derived.Test.YtggfifchkecnjaaGreatDoorY19
import Derived.OwnWalk
import Derived.Test.YtggfifchkecnjaaGreatDoorY17
import Derived.Test.YtggfifchkecnjaaGreatDoorY20
import Derived.Test.YtggfifchkecnjaaGreatDoorY16
namespace Go.Proofs.YtggfifchkecnjaaGreatDoor
open Go.RowKit
set_option maxRecDepth 100000
set_option linter.unusedVariables false
end Go.Proofs.YtggfifchkecnjaaGreatDoor

/- Attributes as pairs of strings, and contracts of the specification's functions on them. -/
namespace Go.Proofs.YtggfifchkecnjaaGreatDoor
open Go.RowKit
set_option maxRecDepth 100000
set_option linter.unusedVariables false

def attrOf : List (ByteArray × ByteArray) → ByteArray → ByteArray × Bool
  | [], _ => (⟨#[]⟩, false)
  | p :: ps, nm => if p.1 = nm then (p.2, true) else attrOf ps nm
def attrOk (p : ByteArray × ByteArray) : Bool := inB p.1.size 1 60 && decide (p.2.size ≤ 3000) && utfOk (bs p.1) && utfOk (bs p.2)
def attrsTo (rs : List (ByteArray × ByteArray)) : Bool := rs.all attrOk && decide (rs.Pairwise fun p q => p.1 ≠ q.1)
def attrsOk (rs : List (ByteArray × ByteArray)) : Bool := decide (rs.length ≤ 20) && attrsTo rs
def attrAdd (rs : List (ByteArray × ByteArray)) (a : ByteArray × ByteArray) : List (ByteArray × ByteArray) := if (attrOf rs a.1).2 || decide (20 ≤ rs.length) || !attrOk a then rs else rs ++ [a]
theorem attrOf_drop {rs : List (ByteArray × ByteArray)} {nm : ByteArray} {k : Nat} (h : k < rs.length) : attrOf (rs.drop k) nm = if rs[k].1 = nm then (rs[k].2, true) else attrOf (rs.drop (k + 1)) nm := by
  rw [List.drop_eq_getElem_cons h]; rfl

set_option maxHeartbeats 1000000 in
set_option maxRecDepth 100000 in
theorem sattrOf_any {v : Value} {rs : List (ByteArray × ByteArray)} {w : World} (h : Sv 2 w v (pairCells rs)) (nm : ByteArray) (hn : rs.length ≤ 1099511627776) :
    Calls Tryz.prog 126 #[v, .string nm] w fun e w' => e = .returned (.tuple #[.string (attrOf rs nm).1, .bool (attrOf rs nm).2]) ∧ w' = w := by
  obtain ⟨a, ca, rfl, _, _, hca⟩ := h.pair
  clear h
  go_enter Tryz.func126, Tryz.ntmps126
  go_wp2
  go_loop [6] (fun i => ∃ k : Nat, k ≤ rs.length ∧ i = .int .i64 k ∧ attrOf (rs.drop k) nm = attrOf rs nm) (fun i => rs.length - (intOf i).toNat)
  case atStart => exact ⟨0, Nat.zero_le _, rfl, rfl⟩
  case round =>
    obtain ⟨k, hk, rfl, he⟩ := hrel
    by_cases hlt : k < rs.length
    · obtain ⟨b1, o1, rfl, l1, c1, c2⟩ := hca k hlt
      rw [attrOf_drop hlt] at he
      obtain ⟨x, hx⟩ : ∃ x, x = rs[k] := ⟨_, rfl⟩
      rw [← hx] at c1 c2 he
      have HE := (show Hid _ from he)
      clear he hx hca
      obtain ⟨xn, xv⟩ := x
      simp only at c1 c2 HE
      by_cases hm : xn = nm
      · have HE2 : Hid (attrOf rs nm = (xv, true)) := by have := HE.out; rw [if_pos hm] at this; exact this.symm
        subst hm
        clear HE
        go_wp2
        go_ret2
        exact ⟨by rw [HE2.out]; rfl, rfl⟩
      · have HE2 := HE.out
        rw [if_neg hm] at HE2
        have HE3 := (show Hid _ from HE2)
        have hd := toList_ne hm
        clear HE HE2
        go_wp2
        go_round
        case rel => exact ⟨k + 1, by omega, by go_num, HE3.out⟩
        case measure => simp [intOf]; omega
    · have hke : k = rs.length := by omega
      rw [hke, List.drop_length] at he
      have HE := (show Hid _ from he)
      clear he hca
      go_wp2
      go_ret2
      exact ⟨by rw [← HE.out]; rfl, rfl⟩

set_option maxHeartbeats 1000000 in
set_option maxRecDepth 100000 in
theorem l4Attr_any (p : ByteArray × ByteArray) (w : World) (h1 : p.1.size ≤ 1099511627776) (h2 : p.2.size ≤ 1099511627776) :
    Calls Tryz.prog 127 #[.agg #[.string p.1, .string p.2]] w fun e w' => e = .returned (.bool (attrOk p)) ∧ Below w.heap.size w w' := by
  obtain ⟨n, v⟩ := p
  simp only at h1 h2 ⊢
  have c1 := fun w => l1In_any n.size 1 60 w
  have c2 := fun w => l1Ok_any n w h1
  have c3 := fun w => l1Ok_any v w h2
  have b1 : Below w.heap.size w (w.alloc (.cells #[.string n, .string v] 81)) := (Below.refl _ _).alloc (Nat.le_refl _) _
  obtain ⟨q1, e1⟩ : ∃ q, q = inB n.size 1 60 := ⟨_, rfl⟩
  obtain ⟨q2, e2⟩ : ∃ q, q = utfOk (bs n) := ⟨_, rfl⟩
  obtain ⟨q3, e3⟩ : ∃ q, q = utfOk (bs v) := ⟨_, rfl⟩
  have hv : attrOk (n, v) = (q1 && decide (v.size ≤ 3000) && q2 && q3) := by rw [e1, e2, e3]; rfl
  rw [hv]
  rw [← e1] at c1
  rw [← e2] at c2
  rw [← e3] at c3
  have C1 := (show Hid _ from c1)
  have C2 := (show Hid _ from c2)
  have C3 := (show Hid _ from c3)
  clear c1 c2 c3 e1 e2 e3 hv
  cases q1
  · go_enter Tryz.func127, Tryz.ntmps127
    go_wp2_with fail
    go_at_call 42
    refine (C1.out _).mono ?_
    rintro e w1 ⟨rfl, rfl⟩
    go_wp2
    go_ret
    exact ⟨ret_bool (by simp), b1⟩
  · by_cases hv : v.size ≤ 3000
    · cases q2
      · go_enter Tryz.func127, Tryz.ntmps127
        go_wp2_with fail
        go_at_call 42
        refine (C1.out _).mono ?_
        rintro e w1 ⟨rfl, rfl⟩
        go_wp2_with fail
        go_at_call 137
        refine (C2.out _).mono ?_
        rintro e w2 ⟨rfl, b2⟩
        replace b2 := b1.trans (b2.mono b1.size)
        go_wp2
        go_ret
        exact ⟨ret_bool (by simp), b2⟩
      · go_enter Tryz.func127, Tryz.ntmps127
        go_wp2_with fail
        go_at_call 42
        refine (C1.out _).mono ?_
        rintro e w1 ⟨rfl, rfl⟩
        go_wp2_with fail
        go_at_call 137
        refine (C2.out _).mono ?_
        rintro e w2 ⟨rfl, b2⟩
        have d1 : w2.cell? ⟨w.heap.size, 1, none⟩ = some (.string v) := by
          rw [b2.cell (p := ⟨w.heap.size, 1, none⟩) (by simp)]
          simp
        replace b2 := b1.trans (b2.mono b1.size)
        go_wp2_with fail
        go_at_call 137
        refine (C3.out _).mono ?_
        rintro e w3 ⟨rfl, b3⟩
        replace b3 := b2.trans (b3.mono b2.size)
        go_wp2
        go_ret
        exact ⟨ret_bool (by simp [hv]), b3⟩
    · go_enter Tryz.func127, Tryz.ntmps127
      go_wp2_with fail
      go_at_call 42
      refine (C1.out _).mono ?_
      rintro e w1 ⟨rfl, rfl⟩
      go_wp2
      go_ret
      exact ⟨ret_bool (by simp <;> omega), b1⟩
end Go.Proofs.YtggfifchkecnjaaGreatDoor

/- Contracts of the laws' copies and measures of a list of attributes. -/
namespace Go.Proofs.YtggfifchkecnjaaGreatDoor
open Go.RowKit
set_option maxRecDepth 100000
set_option linter.unusedVariables false

theorem Tryz.infoA : (Tryz.prog.info? 81).map (fun i => (i.zero, i.size, i.bytes)) = some (some (.agg #[.string ⟨#[]⟩, .string ⟨#[]⟩]), 2, 32) := by kernel_rfl

end Go.Proofs.YtggfifchkecnjaaGreatDoor

/- Contracts of the laws' marks of a list of attributes. -/
namespace Go.Proofs.YtggfifchkecnjaaGreatDoor
open Go.RowKit
set_option maxRecDepth 100000
set_option linter.unusedVariables false

def markPairs (k : Int) (n : Nat) : List (ByteArray × ByteArray) := (List.range n).map fun i : Nat => (mt (k + 2 * (i : Int)), mt (k + 2 * (i : Int) + 1))
end Go.Proofs.YtggfifchkecnjaaGreatDoor

/- The contract of the specification's RefRead, where a reference by number stands, and where a name may stand. -/
namespace Go.Proofs.YtggfifchkecnjaaGreatDoor
open Go.RowKit
set_option maxRecDepth 100000
set_option linter.unusedVariables false

theorem refRead_num {xs : List Int} {k : Nat} {b : Bool} (h1 : xs.length ≤ 3000) (hk : k < xs.length) (h3 : xs.getD k 0 = 38) (h4 : atL xs (k + 1) = 35) :
    refRead xs k b = if 0 < (refNum xs (k + 2)).2 then ([(refNum xs (k + 2)).1], (refNum xs (k + 2)).2) else ([38], (k : Int) + 1) := by
  unfold refRead
  rw [if_neg (by rintro (h | h | h); exact absurd h (by omega); rw [inB_yes (by omega) (by omega)] at h; cases h; exact h (by simpa using h3)), Int.toNat_natCast, if_pos h4]
theorem refRead_name {xs : List Int} {k : Nat} {b : Bool} (h1 : xs.length ≤ 3000) (hk : k < xs.length) (h3 : xs.getD k 0 = 38) (h4 : atL xs (k + 1) ≠ 35) : refRead xs k b = refName xs k b := by
  unfold refRead
  rw [if_neg (by rintro (h | h | h); exact absurd h (by omega); rw [inB_yes (by omega) (by omega)] at h; cases h; exact h (by simpa using h3)), Int.toNat_natCast, if_neg h4]

set_option maxHeartbeats 4000000 in
set_option maxRecDepth 100000 in
theorem srefRead_num {v : Value} {xs : List Int} {w : World} (h : Sl .i64 w v xs) (k : Nat) (b : Bool) (h1 : xs.length ≤ 3000) (hk : k < xs.length) (h3 : xs.getD k 0 = 38) (h4 : atL xs (k + 1) = 35) :
    Calls Tryz.prog 44 #[v, .int .i64 k, .bool b] w (Reads w (refRead xs k b)) := by
  rw [refRead_num h1 hk h3 h4]
  have c1 := fun w => l1In_any k 0 (xs.length - 1) w
  rw [inB_yes (by omega) (by omega)] at c1
  have c2 := l3At_any h (k + 1) (by omega)
  rw [h4] at c2
  have c3 := l3Number_any h (k + 2) (by omega) (by omega)
  have e1 : ((k + 1 : Nat) : Int) = (k : Int) + 1 := by omega
  have e2 : ((k + 2 : Nat) : Int) = (k : Int) + 2 := by omega
  rw [e1] at c2
  rw [e2] at c3
  obtain ⟨p, hp⟩ : ∃ p, p = refNum xs (k + 2) := ⟨_, rfl⟩
  rw [← hp] at c3 ⊢
  obtain ⟨x, n⟩ := p
  simp only at c3 ⊢
  obtain ⟨a, ca, rfl, _, _, _, ha⟩ := h
  obtain ⟨b1, o1, rfl, k1⟩ := ha k hk
  rw [h3] at k1
  clear ha hp h3 h4 e1 e2
  by_cases hn : 0 < n
  · rw [if_pos hn]
    go_enter Tryz.func44, Tryz.ntmps44
    go_wp2_with fail
    go_at_call 42
    refine (c1 _).mono ?_
    rintro e w1 ⟨rfl, rfl⟩
    go_wp2_with fail
    go_at_call 78
    refine c2.mono ?_
    rintro e w1 ⟨rfl, rfl⟩
    go_wp2_with fail
    go_at_call 79
    refine c3.mono ?_
    rintro e w2 ⟨rfl, b2⟩
    go_wp2
    go_ret2
    exact ⟨_, rfl, (own1 _ _).base b2.size, b2.alloc b2.size _⟩
  · rw [if_neg hn]
    go_enter Tryz.func44, Tryz.ntmps44
    go_wp2_with fail
    go_at_call 42
    refine (c1 _).mono ?_
    rintro e w1 ⟨rfl, rfl⟩
    go_wp2_with fail
    go_at_call 78
    refine c2.mono ?_
    rintro e w1 ⟨rfl, rfl⟩
    go_wp2_with fail
    go_at_call 79
    refine c3.mono ?_
    rintro e w2 ⟨rfl, b2⟩
    go_wp2
    go_ret2
    exact ⟨_, rfl, (own1 _ _).base b2.size, b2.alloc b2.size _⟩
end Go.Proofs.YtggfifchkecnjaaGreatDoor

/- The contract of the program's refByNumber. -/
namespace Go.Proofs.YtggfifchkecnjaaGreatDoor
open Go.RowKit
set_option maxRecDepth 100000
set_option linter.unusedVariables false

theorem refDigits_eq (xs : List Int) (b : Int) (k : Nat) : refDigits xs b k = if (digs b (xs.drop k)).length = 0 then (0, 0) else (refNumber (digNum xs b k), ((k + (digs b (xs.drop k)).length + (if atL xs (k + (digs b (xs.drop k)).length) = 59 then 1 else 0) : Nat) : Int)) := by
  unfold refDigits digNum
  simp only [List.length_eq_zero_iff]

def numAns (p : Int × Int) : Value := if 0 < p.2 then .tuple #[.int .i64 p.1, .int .i64 p.2, .bool true] else .tuple #[.int .i64 0, .int .i64 0, .bool false]

set_option maxHeartbeats 4000000 in
set_option maxRecDepth 100000 in
theorem refByNumber_any {v : Value} {xs : List Int} {w : World} (ho : Older w) (h : Sl .i64 w v xs) (k : Nat) (hn : xs.length ≤ 3000) (hk : k ≤ 3000) :
    Calls Tryz.prog 130 #[v, .int .i64 k] w fun e w' => e = .returned (if atL xs k = 35 then numAns (refNum xs (k + 1)) else .tuple #[.int .i64 0, .int .i64 0, .bool false]) ∧ Below w.heap.size w w' := by
  have c0 := hasPoint_any h k 35 (by decide) (by omega)
  by_cases h35 : atL xs k = 35
  · rw [if_pos h35]
    rw [h35, show ((35 : Int) == 35) = true from rfl] at c0
    have e1 : ((k : Int) + 1) = ((k + 1 : Nat) : Int) := by omega
    have cx := hasPoint_any h (k + 1) 120 (by decide) (by omega)
    have cX := hasPoint_any h (k + 1) 88 (by decide) (by omega)
    have HP := (show Hid (∀ (w' : World) (j : Nat), Below w.heap.size w w' → Calls Tryz.prog 139 #[v, .int .i64 j, .int .i64 59] w' fun e w'' => e = .returned (.bool (atL xs j == 59)) ∧ w'' = w') from fun w' j hb => hasPoint_any (h.below hb) j 59 (by decide) (by omega))
    have HO := (show Hid (∀ (w' : World) (x : Int), Below w.heap.size w w' → Calls Tryz.prog 141 #[.int .i64 x] w' fun e w'' => e = .returned (.int .i64 (refNumber x)) ∧ w'' = w') from fun w' x hb => refNumber_any x w' (ho.below hb))
    clear ho
    obtain ⟨b, f, hb, er, hcs⟩ : ∃ (b : Int) (f : Nat), (b = 10 ∨ b = 16) ∧ refNum xs (k + 1) = refDigits xs b f ∧ ((atL xs (k + 1) = 120 ∧ b = 16 ∧ f = k + 2) ∨ (atL xs (k + 1) = 88 ∧ b = 16 ∧ f = k + 2) ∨ (atL xs (k + 1) ≠ 120 ∧ atL xs (k + 1) ≠ 88 ∧ b = 10 ∧ f = k + 1)) := by
      by_cases h1 : atL xs (k + 1) = 120
      · exact ⟨16, k + 2, by simp, by unfold refNum; rw [if_pos (.inl h1)], .inl ⟨h1, rfl, rfl⟩⟩
      · by_cases h2 : atL xs (k + 1) = 88
        · exact ⟨16, k + 2, by simp, by unfold refNum; rw [if_pos (.inr h2)], .inr (.inl ⟨h2, rfl, rfl⟩)⟩
        · exact ⟨10, k + 1, by simp, by unfold refNum; rw [if_neg (by rintro (h | h); exact h1 h; exact h2 h)], .inr (.inr ⟨h1, h2, rfl, rfl⟩)⟩
    rw [er, refDigits_eq]
    have cd := digitsFrom_any h f b hb hn (by omega)
    obtain ⟨c, hc⟩ : ∃ c, c = atL xs (k + 1) := ⟨_, rfl⟩
    rw [← hc] at cx cX hcs
    obtain ⟨D, hD⟩ : ∃ D, D = (digs b (xs.drop f)).length := ⟨_, rfl⟩
    rw [← hD] at cd ⊢
    have hdl := digs_le b (xs.drop f)
    rw [List.length_drop, ← hD] at hdl
    obtain ⟨nm, hnm⟩ : ∃ nm, nm = digNum xs b f := ⟨_, rfl⟩
    rw [← hnm] at cd ⊢
    obtain ⟨g, hg⟩ : ∃ g, g = k + 1 := ⟨_, rfl⟩
    rw [← hg] at cx cX e1 hcs
    have HPm := HP.out
    obtain ⟨m, hm⟩ : ∃ m, m = f + D := ⟨_, rfl⟩
    rw [← hm] at cd ⊢
    have c59 := (show Hid _ from fun w' hb => HPm w' m hb)
    obtain ⟨y, hy⟩ : ∃ y, y = atL xs m := ⟨_, rfl⟩
    rw [← hy] at c59 ⊢
    clear hc hD h hnm er h35 HPm HP hb hy
    have hmm : m ≤ 6010 := by omega
    have hgb : g ≤ 3001 := by omega
    have hfb : f ≤ 3002 := by omega
    have hfp : 0 < f := by omega
    have hmp : 0 < m := by omega
    have e120 : (((120 : Int)) == 120) = true := rfl
    have e88 : (((88 : Int)) == 88) = true := rfl
    have e88' : (((88 : Int)) == 120) = false := rfl
    have e59 : (((59 : Int)) == 59) = true := rfl
    rcases hcs with ⟨rfl, rfl, hfk⟩ | ⟨rfl, rfl, hfk⟩ | ⟨n1, n2, rfl, hfk⟩
    · have e2 : (g : Int) + 1 = (f : Int) := by omega
      clear hg hfk
      rw [e120] at cx
      by_cases hD0 : D = 0
      · have hmf : m = f := by omega
        subst hmf
        rw [if_pos hD0]
        clear hm hD0 hdl c59 HO
        go_enter Tryz.func130, Tryz.ntmps130
        go_wp2_with fail
        go_at_call 139
        refine c0.mono ?_
        rintro e w1 ⟨rfl, rfl⟩
        go_wp2_with fail
        go_at_call 139
        refine cx.mono ?_
        rintro e w1 ⟨rfl, rfl⟩
        go_wp2_with fail
        go_at_call 140
        refine cd.mono ?_
        rintro e w1 ⟨rfl, bw⟩
        go_wp2
        go_ret3
        exact ⟨rfl, bw⟩
      · have hmf : ((m : Int) == (f : Int)) = false := by simp; omega
        rw [if_neg hD0]
        clear hm hdl
        by_cases hy : y = 59
        · rw [if_pos hy]
          subst hy
          rw [e59] at c59
          go_enter Tryz.func130, Tryz.ntmps130
          go_wp2_with fail
          go_at_call 139
          refine c0.mono ?_
          rintro e w1 ⟨rfl, rfl⟩
          go_wp2_with fail
          go_at_call 139
          refine cx.mono ?_
          rintro e w1 ⟨rfl, rfl⟩
          go_wp2_with fail
          go_at_call 140
          refine cd.mono ?_
          rintro e w1 ⟨rfl, bw⟩
          go_wp2_with fail
          go_at_call 139
          refine (c59.out _ bw).mono ?_
          rintro e w1 ⟨rfl, rfl⟩
          go_wp2_with fail
          go_at_call 141
          refine (HO.out _ _ bw).mono ?_
          rintro e w1 ⟨rfl, rfl⟩
          go_wp2
          go_ret3
          exact ⟨by unfold numAns; rw [if_pos (by simp only; omega)]; simp, bw⟩
        · have hy2 : (y == 59) = false := by simpa using hy
          rw [if_neg hy]
          rw [hy2] at c59
          go_enter Tryz.func130, Tryz.ntmps130
          go_wp2_with fail
          go_at_call 139
          refine c0.mono ?_
          rintro e w1 ⟨rfl, rfl⟩
          go_wp2_with fail
          go_at_call 139
          refine cx.mono ?_
          rintro e w1 ⟨rfl, rfl⟩
          go_wp2_with fail
          go_at_call 140
          refine cd.mono ?_
          rintro e w1 ⟨rfl, bw⟩
          go_wp2_with fail
          go_at_call 139
          refine (c59.out _ bw).mono ?_
          rintro e w1 ⟨rfl, rfl⟩
          go_wp2_with fail
          go_at_call 141
          refine (HO.out _ _ bw).mono ?_
          rintro e w1 ⟨rfl, rfl⟩
          go_wp2
          go_ret3
          exact ⟨by unfold numAns; rw [if_pos (by simp only; omega)]; simp, bw⟩
    · have e2 : (g : Int) + 1 = (f : Int) := by omega
      clear hg hfk
      rw [e88'] at cx
      rw [e88] at cX
      by_cases hD0 : D = 0
      · have hmf : m = f := by omega
        subst hmf
        rw [if_pos hD0]
        clear hm hD0 hdl c59 HO
        go_enter Tryz.func130, Tryz.ntmps130
        go_wp2_with fail
        go_at_call 139
        refine c0.mono ?_
        rintro e w1 ⟨rfl, rfl⟩
        go_wp2_with fail
        go_at_call 139
        refine cx.mono ?_
        rintro e w1 ⟨rfl, rfl⟩
        go_wp2_with fail
        go_at_call 139
        refine cX.mono ?_
        rintro e w1 ⟨rfl, rfl⟩
        go_wp2_with fail
        go_at_call 140
        refine cd.mono ?_
        rintro e w1 ⟨rfl, bw⟩
        go_wp2
        go_ret3
        exact ⟨rfl, bw⟩
      · have hmf : ((m : Int) == (f : Int)) = false := by simp; omega
        rw [if_neg hD0]
        clear hm hdl
        by_cases hy : y = 59
        · rw [if_pos hy]
          subst hy
          rw [e59] at c59
          go_enter Tryz.func130, Tryz.ntmps130
          go_wp2_with fail
          go_at_call 139
          refine c0.mono ?_
          rintro e w1 ⟨rfl, rfl⟩
          go_wp2_with fail
          go_at_call 139
          refine cx.mono ?_
          rintro e w1 ⟨rfl, rfl⟩
          go_wp2_with fail
          go_at_call 139
          refine cX.mono ?_
          rintro e w1 ⟨rfl, rfl⟩
          go_wp2_with fail
          go_at_call 140
          refine cd.mono ?_
          rintro e w1 ⟨rfl, bw⟩
          go_wp2_with fail
          go_at_call 139
          refine (c59.out _ bw).mono ?_
          rintro e w1 ⟨rfl, rfl⟩
          go_wp2_with fail
          go_at_call 141
          refine (HO.out _ _ bw).mono ?_
          rintro e w1 ⟨rfl, rfl⟩
          go_wp2
          go_ret3
          exact ⟨by unfold numAns; rw [if_pos (by simp only; omega)]; simp, bw⟩
        · have hy2 : (y == 59) = false := by simpa using hy
          rw [if_neg hy]
          rw [hy2] at c59
          go_enter Tryz.func130, Tryz.ntmps130
          go_wp2_with fail
          go_at_call 139
          refine c0.mono ?_
          rintro e w1 ⟨rfl, rfl⟩
          go_wp2_with fail
          go_at_call 139
          refine cx.mono ?_
          rintro e w1 ⟨rfl, rfl⟩
          go_wp2_with fail
          go_at_call 139
          refine cX.mono ?_
          rintro e w1 ⟨rfl, rfl⟩
          go_wp2_with fail
          go_at_call 140
          refine cd.mono ?_
          rintro e w1 ⟨rfl, bw⟩
          go_wp2_with fail
          go_at_call 139
          refine (c59.out _ bw).mono ?_
          rintro e w1 ⟨rfl, rfl⟩
          go_wp2_with fail
          go_at_call 141
          refine (HO.out _ _ bw).mono ?_
          rintro e w1 ⟨rfl, rfl⟩
          go_wp2
          go_ret3
          exact ⟨by unfold numAns; rw [if_pos (by simp only; omega)]; simp, bw⟩
    · subst hfk
      clear hg
      have q1 : (c == 120) = false := by simpa using n1
      have q2 : (c == 88) = false := by simpa using n2
      rw [q1] at cx
      rw [q2] at cX
      by_cases hD0 : D = 0
      · have hmf : m = f := by omega
        subst hmf
        rw [if_pos hD0]
        clear hm hD0 hdl c59 HO
        go_enter Tryz.func130, Tryz.ntmps130
        go_wp2_with fail
        go_at_call 139
        refine c0.mono ?_
        rintro e w1 ⟨rfl, rfl⟩
        go_wp2_with fail
        go_at_call 139
        refine cx.mono ?_
        rintro e w1 ⟨rfl, rfl⟩
        go_wp2_with fail
        go_at_call 139
        refine cX.mono ?_
        rintro e w1 ⟨rfl, rfl⟩
        go_wp2_with fail
        go_at_call 140
        refine cd.mono ?_
        rintro e w1 ⟨rfl, bw⟩
        go_wp2
        go_ret3
        exact ⟨rfl, bw⟩
      · have hmf : ((m : Int) == (f : Int)) = false := by simp; omega
        rw [if_neg hD0]
        clear hm hdl
        by_cases hy : y = 59
        · rw [if_pos hy]
          subst hy
          rw [e59] at c59
          go_enter Tryz.func130, Tryz.ntmps130
          go_wp2_with fail
          go_at_call 139
          refine c0.mono ?_
          rintro e w1 ⟨rfl, rfl⟩
          go_wp2_with fail
          go_at_call 139
          refine cx.mono ?_
          rintro e w1 ⟨rfl, rfl⟩
          go_wp2_with fail
          go_at_call 139
          refine cX.mono ?_
          rintro e w1 ⟨rfl, rfl⟩
          go_wp2_with fail
          go_at_call 140
          refine cd.mono ?_
          rintro e w1 ⟨rfl, bw⟩
          go_wp2_with fail
          go_at_call 139
          refine (c59.out _ bw).mono ?_
          rintro e w1 ⟨rfl, rfl⟩
          go_wp2_with fail
          go_at_call 141
          refine (HO.out _ _ bw).mono ?_
          rintro e w1 ⟨rfl, rfl⟩
          go_wp2
          go_ret3
          exact ⟨by unfold numAns; rw [if_pos (by simp only; omega)]; simp, bw⟩
        · have hy2 : (y == 59) = false := by simpa using hy
          rw [if_neg hy]
          rw [hy2] at c59
          go_enter Tryz.func130, Tryz.ntmps130
          go_wp2_with fail
          go_at_call 139
          refine c0.mono ?_
          rintro e w1 ⟨rfl, rfl⟩
          go_wp2_with fail
          go_at_call 139
          refine cx.mono ?_
          rintro e w1 ⟨rfl, rfl⟩
          go_wp2_with fail
          go_at_call 139
          refine cX.mono ?_
          rintro e w1 ⟨rfl, rfl⟩
          go_wp2_with fail
          go_at_call 140
          refine cd.mono ?_
          rintro e w1 ⟨rfl, bw⟩
          go_wp2_with fail
          go_at_call 139
          refine (c59.out _ bw).mono ?_
          rintro e w1 ⟨rfl, rfl⟩
          go_wp2_with fail
          go_at_call 141
          refine (HO.out _ _ bw).mono ?_
          rintro e w1 ⟨rfl, rfl⟩
          go_wp2
          go_ret3
          exact ⟨by unfold numAns; rw [if_pos (by simp only; omega)]; simp, bw⟩
  · have e35 : (atL xs k == 35) = false := by simpa using h35
    rw [if_neg h35]
    rw [e35] at c0
    clear h35 e35 ho
    go_enter Tryz.func130, Tryz.ntmps130
    go_wp2_with fail
    go_at_call 139
    refine c0.mono ?_
    rintro e w1 ⟨rfl, rfl⟩
    go_wp2
    go_ret3
    exact ⟨rfl, Below.refl _ _⟩
end Go.Proofs.YtggfifchkecnjaaGreatDoor

/- The draw of a page: some text none of whose bytes is above 195, and the points of such a text. -/
namespace Go.Proofs.YtggfifchkecnjaaGreatDoor
open Go.RowKit
set_option maxRecDepth 100000
set_option linter.unusedVariables false

abbrev lowS (s : ByteArray) : Prop := ∀ b ∈ s.data.toList, b ≤ 195
theorem lowS.add {s t : ByteArray} (h : lowS s) (k : lowS t) : lowS (s ++ t) := by
  intro b hb
  have e : (s ++ t).data.toList = s.data.toList ++ t.data.toList := by simp
  rw [e] at hb
  rcases List.mem_append.mp hb with hb | hb
  · exact h b hb
  · exact k b hb
theorem lowS.bs {s : ByteArray} (h : lowS s) : ∀ x ∈ bs s, 0 ≤ x ∧ x ≤ 195 := by
  intro x hx
  unfold Go.Proofs.YtggfifchkecnjaaGreatDoor.bs at hx
  obtain ⟨b, hb, rfl⟩ := List.mem_map.mp hx
  have h1 := UInt8.le_iff_toNat_le.mp (h b hb)
  have h2 : (195 : UInt8).toNat = 195 := rfl
  omega
theorem step_low {b : Int} (h0 : 0 ≤ b) (h1 : b ≤ 195) (r : List Int) : (stepOf b r).1 ≠ 65279 := by
  unfold stepOf
  split
  · simp; omega
  split
  · rcases tail1 (b - 192) (loOf b) (hiOf b) r with e | ⟨c, c0, c1, e⟩
    · rw [e]; decide
    · rw [e]
      rw [hiOf_le (by omega) (by omega)] at c1
      omega
  split
  · omega
  split
  · omega
  · simp
theorem dec_low5 (n : Nat) (l : List Int) (h : l.length ≤ n) (hb : ∀ y ∈ l, 0 ≤ y ∧ y ≤ 195) : ∀ p ∈ dec l, p ≠ 65279 := by
  induction n generalizing l with
  | zero => have : l = [] := List.length_eq_zero_iff.mp (by omega)
            subst this; rw [dec_nil]; intro p hp; cases hp
  | succ n ih =>
    cases l with
    | nil => rw [dec_nil]; intro p hp; cases hp
    | cons b r =>
      rw [dec_cons]
      have h1 := stepOf_le b r
      intro p hp
      have hb0 := hb b (List.mem_cons_self ..)
      rcases List.mem_cons.mp hp with e | e
      · rw [e]; exact step_low hb0.1 hb0.2 r
      · exact ih (stepOf b r).2 (by simp at h; omega) (fun y hy => hb y (List.mem_cons_of_mem _ (stepOf_mem b r y hy))) p e


def pk0 : List ByteArray := [⟨#[38, 97, 109, 112, 59]⟩, ⟨#[38, 97, 109, 112]⟩, ⟨#[38, 97, 109, 112, 120]⟩, ⟨#[38, 108, 116, 61]⟩, ⟨#[38, 110, 111, 116, 105, 110, 59]⟩, ⟨#[38, 110, 111, 116, 105, 116]⟩, ⟨#[38, 110, 111, 116]⟩, ⟨#[38, 35, 54, 53, 59]⟩, ⟨#[38, 35, 120, 52, 49]⟩, ⟨#[38, 35, 88, 52, 97, 59]⟩, ⟨#[38, 35, 59]⟩, ⟨#[38, 35, 120, 59]⟩, ⟨#[38, 35, 49, 50, 56, 59]⟩, ⟨#[38, 35, 48, 59]⟩, ⟨#[38, 35, 120, 70, 70, 70, 70, 70, 70, 70, 70, 59]⟩, ⟨#[38, 35, 48, 48, 48, 48, 48, 48, 48, 48, 48, 54, 53, 59]⟩, ⟨#[38]⟩, ⟨#[38, 120, 59]⟩, ⟨#[38, 99, 111, 112, 121, 57]⟩, ⟨#[38, 115, 117, 112, 49, 59]⟩, ⟨#[38, 102, 114, 97, 99, 49, 50]⟩, ⟨#[38, 104, 101, 108, 108, 105, 112, 59]⟩, ⟨#[38, 35, 53, 53, 50, 57, 54, 59]⟩, ⟨#[38, 35, 49, 50, 51, 52, 53, 54, 55, 56, 59]⟩]

def pk1 : List ByteArray := [⟨#[60, 33, 45, 45, 120, 45, 45, 62]⟩, ⟨#[60, 33, 45, 45, 62]⟩, ⟨#[60, 33, 45, 45, 45, 62]⟩, ⟨#[60, 33, 45, 45, 97, 45, 45, 33, 62]⟩, ⟨#[60, 33, 45, 45, 97, 45, 45]⟩, ⟨#[60, 33, 45, 45, 97, 45]⟩, ⟨#[60, 33, 100, 111, 99, 116, 121, 112, 101, 32, 104, 116, 109, 108, 62]⟩, ⟨#[60, 33, 68, 79, 67, 84, 89, 80, 69]⟩, ⟨#[60, 33, 120, 62]⟩, ⟨#[60, 63, 120, 62]⟩, ⟨#[60, 47, 62]⟩, ⟨#[60, 47, 32, 120, 62]⟩, ⟨#[60, 33, 45, 45]⟩, ⟨#[60, 33, 45, 120, 62]⟩]

def pk2 : List ByteArray := [⟨#[60]⟩, ⟨#[60, 47]⟩, ⟨#[60, 49]⟩, ⟨#[60, 32, 97]⟩, ⟨#[0]⟩, ⟨#[60, 98]⟩, ⟨#[60, 47, 98]⟩, ⟨#[62]⟩, ⟨#[60, 97, 32, 98]⟩, ⟨#[60, 97, 32, 98, 61, 39]⟩, ⟨#[45, 45, 62]⟩]

def pk3 : List ByteArray := [⟨#[60, 97, 32, 104, 114, 101, 102, 61, 120, 62]⟩, ⟨#[60, 97, 32, 104, 114, 101, 102, 61, 39, 120, 38, 97, 109, 112, 59, 121, 39, 32, 104, 114, 101, 102, 61, 50, 62]⟩, ⟨#[60, 65, 32, 66, 61, 34, 99, 38, 108, 116, 34, 62]⟩, ⟨#[60, 98, 114, 47, 62]⟩, ⟨#[60, 98, 114, 32, 47, 62]⟩, ⟨#[60, 97, 47, 98, 62]⟩, ⟨#[60, 97, 32, 61, 98, 62]⟩, ⟨#[60, 97, 32, 98, 61, 62]⟩, ⟨#[60, 97, 32, 98, 32, 61, 32, 99, 32, 100, 62]⟩, ⟨#[60, 97, 9, 98, 10, 61, 10, 99, 62]⟩, ⟨#[60, 112, 47, 32, 105, 100, 62]⟩]

def pk4 : List ByteArray := [⟨#[112]⟩, ⟨#[98]⟩, ⟨#[105]⟩, ⟨#[97]⟩, ⟨#[100, 105, 118]⟩, ⟨#[116, 105, 116, 108, 101]⟩, ⟨#[66]⟩, ⟨#[108, 105]⟩, ⟨#[104, 49]⟩, ⟨#[98, 114]⟩, ⟨#[120]⟩, ⟨#[98, 111, 100, 121]⟩, ⟨#[104, 116, 109, 108]⟩, ⟨#[115, 99, 114, 105, 112, 116]⟩]

def pk5 : List ByteArray := [⟨#[62]⟩, ⟨#[32, 62]⟩, ⟨#[32, 120, 61, 49, 62]⟩, ⟨#[47, 62]⟩]

def pk6 : List ByteArray := [⟨#[112]⟩, ⟨#[98]⟩, ⟨#[105]⟩, ⟨#[97]⟩, ⟨#[100, 105, 118]⟩, ⟨#[116, 105, 116, 108, 101]⟩, ⟨#[66]⟩, ⟨#[108, 105]⟩, ⟨#[104, 49]⟩, ⟨#[98, 114]⟩, ⟨#[120]⟩, ⟨#[98, 111, 100, 121]⟩, ⟨#[104, 116, 109, 108]⟩, ⟨#[115, 99, 114, 105, 112, 116]⟩, ⟨#[101, 109]⟩, ⟨#[104, 114]⟩, ⟨#[110, 111, 98, 114]⟩, ⟨#[98, 117, 116, 116, 111, 110]⟩, ⟨#[100, 100]⟩, ⟨#[117, 108]⟩, ⟨#[111, 98, 106, 101, 99, 116]⟩, ⟨#[111, 112, 116, 105, 111, 110]⟩, ⟨#[112, 114, 101]⟩, ⟨#[116, 101, 120, 116, 97, 114, 101, 97]⟩, ⟨#[112, 108, 97, 105, 110, 116, 101, 120, 116]⟩, ⟨#[104, 101, 97, 100]⟩, ⟨#[116, 97, 98, 108, 101]⟩, ⟨#[105, 109, 103]⟩, ⟨#[105, 109, 97, 103, 101]⟩, ⟨#[115, 112, 97, 110]⟩, ⟨#[104, 50]⟩, ⟨#[102, 111, 110, 116]⟩, ⟨#[115, 116, 121, 108, 101]⟩]

def pk7 : List ByteArray := [⟨#[62]⟩, ⟨#[62]⟩, ⟨#[62]⟩, ⟨#[32, 105, 100, 61, 49, 62]⟩]

def pk8 : List ByteArray := [⟨#[97]⟩, ⟨#[32]⟩, ⟨#[10]⟩, ⟨#[120, 32, 121]⟩, ⟨#[195, 169]⟩, ⟨#[122]⟩]

end Go.Proofs.YtggfifchkecnjaaGreatDoor

/- Contracts of the specification's AttrsOk and AttrsSame. -/
namespace Go.Proofs.YtggfifchkecnjaaGreatDoor
open Go.RowKit
set_option maxRecDepth 100000
set_option linter.unusedVariables false

theorem attrsTo_iff (rs : List (ByteArray × ByteArray)) : attrsTo rs = true ↔ (∀ i (hi : i < rs.length), attrOk rs[i] = true) ∧ ∀ i j (hi : i < rs.length) (hj : j < rs.length), i < j → rs[i].1 ≠ rs[j].1 := by
  unfold attrsTo
  rw [Bool.and_eq_true, List.all_eq_true, decide_eq_true_eq, List.pairwise_iff_getElem]
  constructor
  · rintro ⟨h1, h2⟩
    exact ⟨fun i hi => h1 _ (List.getElem_mem hi), h2⟩
  · rintro ⟨h1, h2⟩
    refine ⟨fun p hp => ?_, h2⟩
    obtain ⟨i, hi, rfl⟩ := List.getElem_of_mem hp
    exact h1 i hi
theorem attrsTo_succ {rs : List (ByteArray × ByteArray)} {k : Nat} (hk : k < rs.length) (h : attrsTo (rs.take k) = true) (ha : attrOk rs[k] = true) (hd : ∀ j (hj : j < k), (rs[j]'(by omega)).1 ≠ rs[k].1) : attrsTo (rs.take (k + 1)) = true := by
  rw [attrsTo_iff] at h ⊢
  have hl : (rs.take (k + 1)).length = k + 1 := by simp; omega
  have hl0 : (rs.take k).length = k := by simp; omega
  refine ⟨fun i hi => ?_, fun i j hi hj hij => ?_⟩
  · rw [List.getElem_take]
    by_cases hik : i < k
    · have := h.1 i (by omega); rw [List.getElem_take] at this; exact this
    · have e : i = k := by omega
      subst e; exact ha
  · rw [List.getElem_take, List.getElem_take]
    by_cases hjk : j < k
    · have := h.2 i j (by omega) (by omega) hij
      rw [List.getElem_take, List.getElem_take] at this; exact this
    · have e : j = k := by omega
      subst e; exact hd i hij
theorem attrsTo_bad {rs : List (ByteArray × ByteArray)} {k : Nat} (hk : k < rs.length) (h : attrOk rs[k] = false) : attrsTo rs = false := by
  rcases he : attrsTo rs with _ | _
  · rfl
  · rw [((attrsTo_iff rs).mp he).1 k hk] at h; cases h
theorem attrsTo_twice {rs : List (ByteArray × ByteArray)} {j k : Nat} (hj : j < rs.length) (hk : k < rs.length) (hjk : j < k) (h : rs[j].1 = rs[k].1) : attrsTo rs = false := by
  rcases he : attrsTo rs with _ | _
  · rfl
  · exact absurd h (((attrsTo_iff rs).mp he).2 j k hj hk hjk)

end Go.Proofs.YtggfifchkecnjaaGreatDoor
