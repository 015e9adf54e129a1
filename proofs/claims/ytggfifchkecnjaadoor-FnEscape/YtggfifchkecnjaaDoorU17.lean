/- Contracts of NameOk, the program's and the specification's, at every string of at most 2^40 bytes. -/
import Derived.Test.YtggfifchkecnjaaDoorU6
import Derived.Test.YtggfifchkecnjaaDoorU15
import Derived.Deep.RegionHeld
namespace Go.Proofs.YtggfifchkecnjaaDoor
open Go.RowKit
set_option maxRecDepth 100000
set_option linter.unusedVariables false

def badB (x : Int) : Bool := isBlank x || inB x 65 90 || isBar x
def nameOk (xs : List Int) : Bool := inB xs.length 1 60 && utfOk xs && inB (xs.getD 0 0) 97 122 && !(xs.any badB)

theorem wrap_byte {x : Int} (h0 : 0 ≤ x) (h1 : x ≤ 255) : IntKind.i64.wrap x = x := by
  have h : x % 2 ^ 64 = x := by omega
  simp only [IntKind.wrap, IntKind.bits, h]
  rw [if_neg]
  simp; omega

/-- The three kinds that bar a byte of a name lie in the table in block g. -/
def KC (w : World) (g : Nat) : Prop := w.cell? ⟨g, 0, none⟩ = some (.func (.func 47) #[] #[]) ∧ w.cell? ⟨g, 1, none⟩ = some (.func (.func 48) #[] #[]) ∧ w.cell? ⟨g, 6, none⟩ = some (.func (.func 53) #[] #[])
theorem KC.lt {w : World} {g : Nat} (h : KC w g) : g < w.heap.size := by
  by_cases hl : g < w.heap.size
  · exact hl
  · have := h.1
    simp [World.cell?, Array.getElem?_eq_none (Nat.le_of_not_lt hl)] at this
theorem KC.below {w w' : World} {g : Nat} (h : KC w g) (hb : Below w.heap.size w w') : KC w' g :=
  ⟨(hb.cell (p := ⟨g, 0, none⟩) h.lt).trans h.1, (hb.cell (p := ⟨g, 1, none⟩) h.lt).trans h.2.1, (hb.cell (p := ⟨g, 6, none⟩) h.lt).trans h.2.2⟩
theorem any_succ {xs : List Int} {k : Nat} (h : k < xs.length) : (xs.take (k + 1)).any badB = ((xs.take k).any badB || badB (xs.getD k 0)) := by
  have hg : xs.getD k 0 = xs[k] := by simp [List.getD_eq_getElem?_getD, h]
  rw [List.take_succ_eq_append_getElem h, hg, List.any_append]
  simp only [List.any_cons, List.any_nil, Bool.or_false]
theorem any_of {xs : List Int} {k : Nat} (h : k < xs.length) (hb : badB (xs.getD k 0) = true) : xs.any badB = true := by
  have hg : xs.getD k 0 = xs[k] := by simp [List.getD_eq_getElem?_getD, h]
  rw [hg] at hb
  exact List.any_eq_true.mpr ⟨_, List.getElem_mem h, hb⟩

end Go.Proofs.YtggfifchkecnjaaDoor

/- The contract of the specification's question whether a text stands at a place. -/
namespace Go.Proofs.YtggfifchkecnjaaDoor
open Go.RowKit
set_option maxRecDepth 100000
set_option linter.unusedVariables false

theorem stands_no {xs nm : List Int} {k i : Nat} (h : i < nm.length) (e : atL xs (k + i) ≠ nm.getD i 0) : stands xs k nm = false := by
  unfold stands
  rw [List.all_eq_false]
  exact ⟨i, List.mem_range.mpr h, by simpa using e⟩
theorem stands_yes {xs nm : List Int} {k : Nat} (h : ∀ i, i < nm.length → atL xs (k + i) = nm.getD i 0) : stands xs k nm = true := by
  unfold stands
  rw [List.all_eq_true]
  intro i hi
  simpa using h i (List.mem_range.mp hi)

end Go.Proofs.YtggfifchkecnjaaDoor

/- The contracts of the program's nameStands and goesOn. -/
namespace Go.Proofs.YtggfifchkecnjaaDoor
open Go.RowKit
set_option maxRecDepth 100000
set_option linter.unusedVariables false

theorem stands_short {xs nm : List Int} {k : Nat} (h : xs.length < k + nm.length) (hp : ∀ x ∈ nm, 0 ≤ x) (hne : 0 < nm.length) (hk : k ≤ xs.length) : stands xs k nm = false := by
  refine stands_no (i := xs.length - k) (by omega) ?_
  rw [atL_out (by omega)]
  have hi : xs.length - k < nm.length := by omega
  have e : nm.getD (xs.length - k) 0 = nm[xs.length - k] := by simp [List.getD_eq_getElem?_getD, hi]
  have := hp _ (List.getElem_mem hi)
  omega

set_option maxHeartbeats 2000000 in
set_option maxRecDepth 100000 in
theorem nameStands_any {v : Value} {xs : List Int} {w : World} (h : Sl .i64 w v xs) (k : Nat) (s : ByteArray) (hn : xs.length ≤ 3000) (hk : k ≤ xs.length) (hs : s.size ≤ 3000) :
    Calls Tryd.prog 34 #[v, .int .i64 k, .string s] w fun e w' => e = .returned (.bool (stands xs k (bs s))) ∧ ∃ n, w' = w.drewN n := by
  have hl := bs_len s
  have HS := (show Hid (Sl .i64 w v xs) from h)
  obtain ⟨a, ca, rfl, _, _, _, ha⟩ := h
  clear ha
  by_cases hsh : xs.length < k + s.size
  · have e := stands_short (xs := xs) (nm := bs s) (k := k) (by omega) (fun x hx => (bs_byte s x hx).1) (by omega) hk
    rw [e]
    clear e
    go_enter Tryd.func34, Tryd.ntmps34
    go_wp2
    go_ret
    exact ⟨rfl, 0, rfl⟩
  go_enter Tryd.func34, Tryd.ntmps34
  go_wp2
  go_loopw [17] (fun i wr => ∃ j : Nat, j ≤ s.size ∧ i = .int .i64 j ∧ (∀ t, t < j → atL xs (k + t) = (bs s).getD t 0) ∧ ∃ n, wr = w.drewN n) (fun i _ => s.size - (intOf i).toNat)
  case atStart => exact ⟨0, Nat.zero_le _, rfl, fun t ht => absurd ht (by omega), 0, rfl⟩
  case round =>
    obtain ⟨j, hj, rfl, hall, hw⟩ := hrel
    have h' : Sl .i64 wr (.slice a xs.length ca) xs := by obtain ⟨n, rfl⟩ := hw; exact HS.out.below (below_drewN n)
    have HW := (show Hid (∃ n, wr = w.drewN n) from hw)
    clear hw
    have HA := (show Hid _ from hall)
    clear hall
    by_cases hlt : j < s.size
    · have hat := bs_at s j hlt
      have hbk := bs_bound s j
      obtain ⟨m, hm⟩ : ∃ m : Nat, m = k + j := ⟨_, rfl⟩
      have hme : (k : Int) + (j : Int) = (m : Int) := by omega
      have hml : m < xs.length := by omega
      obtain ⟨_, _, ev, _, _, _, ha⟩ := h'
      cases ev
      obtain ⟨b1, o1, rfl, c1⟩ := ha m hml
      rw [← atL_in hml] at c1
      have HN : Hid (atL xs m ≠ (bs s).getD j 0 → stands xs k (bs s) = false) := fun e => stands_no (i := j) (by omega) (by rw [← hm]; exact e)
      have HY : Hid (atL xs m = (bs s).getD j 0 → ∀ t, t < j + 1 → atL xs (k + t) = (bs s).getD t 0) := fun e t ht => by
        by_cases htj : t = j
        · subst htj; rw [← hm]; exact e
        · exact HA.out t (by omega)
      obtain ⟨x, hx⟩ : ∃ x, x = (bs s).getD j 0 := ⟨_, rfl⟩
      obtain ⟨c, hc⟩ : ∃ c, c = atL xs m := ⟨_, rfl⟩
      rw [← hx] at hat hbk HN HY
      rw [← hc] at c1 HN HY
      have hwx : IntKind.i64.wrap x = x := wrap_byte hbk.1 hbk.2
      clear hx hc hm ha
      by_cases hcx : c = x
      · subst hcx
        go_wp2
        go_quiet (fail)
        go_wp2
        go_roundw
        case rel => exact ⟨j + 1, by omega, by go_num, HY.out (by simp), by obtain ⟨n, hn⟩ := HW.out; exact ⟨n + nq, by rw [hn, World.drewN_drewN]⟩⟩
        case measure => simp [intOf]; omega
      · have e : (c != x) = true := by simpa using hcx
        go_wp2
        go_quiet (fail)
        go_wp2
        go_ret
        exact ⟨ret_bool (HN.out hcx).symm, by obtain ⟨n, hn⟩ := HW.out; exact ⟨n + nq, by rw [hn, World.drewN_drewN]⟩⟩
    · go_wp2
      go_ret
      exact ⟨ret_bool (by rw [stands_yes (fun i hi => HA.out i (by omega))]), HW.out⟩

set_option maxHeartbeats 2000000 in
set_option maxRecDepth 100000 in
theorem goesOn_any {v : Value} {xs : List Int} {w : World} (h : Sl .i64 w v xs) (m : Nat) (s : ByteArray) (hn : xs.length ≤ 3000) (hm : m ≤ xs.length) (hs : s.size ≤ 3000) (h0 : 0 < s.size) :
    Calls Tryd.prog 35 #[.string s, v, .int .i64 m] w fun e w' => e = .returned (.bool (((bs s).getD (s.size - 1) 0 != 59) && (atL xs m == 61 || (inB (atL xs m) 65 90 || inB (atL xs m) 97 122) || decide (0 ≤ digitOf (atL xs m) 10)))) ∧ Below w.heap.size w w' := by
  obtain ⟨j, hj⟩ : ∃ j : Nat, s.size = j + 1 := ⟨s.size - 1, by omega⟩
  have hat := bs_at s j (by omega)
  have hbd := bs_bound s j
  have ej : s.size - 1 = j := by omega
  have ej2 : (s.size : Int) - 1 = (j : Int) := by omega
  rw [ej]
  obtain ⟨y, hy⟩ : ∃ y, y = (bs s).getD j 0 := ⟨_, rfl⟩
  rw [← hy] at hat hbd ⊢
  obtain ⟨a, ca, rfl, _, _, _, ha⟩ := h
  have hjs : j < s.size := by omega
  by_cases h59 : y = 59
  · subst h59
    clear ha hy
    go_enter Tryd.func35, Tryd.ntmps35
    go_wp2
    go_ret
    exact ⟨rfl, Below.refl _ _⟩
  have e59 : (y == 59) = false := by simpa using h59
  have e59' : (y != 59) = true := by simpa using h59
  rw [e59', Bool.true_and]
  by_cases hml : m < xs.length
  · have em : ((m : Int) == (xs.length : Int)) = false := by simp; omega
    obtain ⟨b1, o1, rfl, c1⟩ := ha m hml
    rw [← atL_in hml] at c1
    obtain ⟨c, hc⟩ : ∃ c, c = atL xs m := ⟨_, rfl⟩
    rw [← hc] at c1 ⊢
    have ca1 := fun w => ialpha_any c w
    have cd1 := fun w => idigit_any c 10 w
    obtain ⟨al, hal⟩ : ∃ al, al = (inB c 65 90 || inB c 97 122) := ⟨_, rfl⟩
    obtain ⟨dg, hdg⟩ : ∃ dg, dg = digitOf c 10 := ⟨_, rfl⟩
    rw [← hal] at ca1 ⊢
    rw [← hdg] at cd1 ⊢
    have CA := (show Hid _ from ca1)
    have CD := (show Hid _ from cd1)
    clear ha hc hal hdg ca1 cd1 hy
    by_cases h61 : c = 61
    · subst h61
      go_enter Tryd.func35, Tryd.ntmps35
      go_wp2
      go_ret
      exact ⟨rfl, Below.refl _ _⟩
    · have e61 : (c == 61) = false := by simpa using h61
      rw [e61, Bool.false_or]
      cases al
      · rw [Bool.false_or]
        go_enter Tryd.func35, Tryd.ntmps35
        go_wp2_with fail
        go_at_call 42
        refine (CA.out _).mono ?_
        rintro e w1 ⟨rfl, b1⟩
        go_wp2_with fail
        go_at_call 41
        refine (CD.out _).mono ?_
        rintro e w2 ⟨rfl, b2⟩
        go_wp2
        go_ret
        exact ⟨rfl, b1.trans (b2.mono b1.size)⟩
      · go_enter Tryd.func35, Tryd.ntmps35
        go_wp2_with fail
        go_at_call 42
        refine (CA.out _).mono ?_
        rintro e w1 ⟨rfl, b1⟩
        go_wp2
        go_ret
        exact ⟨rfl, b1⟩
  · have em : (m : Int) = (xs.length : Int) := by omega
    rw [atL_out (by omega)]
    rw [show ((-1 : Int) == 61 || (inB (-1) 65 90 || inB (-1) 97 122) || decide (0 ≤ digitOf (-1) 10)) = false by decide]
    clear ha hy
    rw [em]
    go_enter Tryd.func35, Tryd.ntmps35
    go_wp2
    go_ret
    exact ⟨rfl, Below.refl _ _⟩
end Go.Proofs.YtggfifchkecnjaaDoor
