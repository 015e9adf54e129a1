/- Contracts of NameOk, the program's and the specification's, at every string of at most 2^40 bytes. -/
import Derived.Test.YtggfifchkecnjaaGreatDoorX13
import Derived.Test.YtggfifchkecnjaaGreatDoorX8
import Derived.Deep.RegionHeld
import Derived.Test.YtggfifchkecnjaaGreatDoorX14
import Derived.Test.YtggfifchkecnjaaGreatDoorX6
import Derived.Test.YtggfifchkecnjaaGreatDoorX10
import Derived.Test.YtggfifchkecnjaaGreatDoorX3
import Derived.Test.YtggfifchkecnjaaGreatDoorX15
namespace Go.Proofs.YtggfifchkecnjaaGreatDoor
open Go.RowKit
set_option maxRecDepth 100000
set_option linter.unusedVariables false
theorem wrap_byte {x : Int} (h0 : 0 ≤ x) (h1 : x ≤ 255) : IntKind.i64.wrap x = x := by
  have h : x % 2 ^ 64 = x := by omega
  simp only [IntKind.wrap, IntKind.bits, h]
  rw [if_neg]
  simp; omega

def KC (w : World) (g : Nat) : Prop := w.cell? ⟨g, 0, none⟩ = some (.func (.func 98) #[] #[]) ∧ w.cell? ⟨g, 1, none⟩ = some (.func (.func 99) #[] #[]) ∧ w.cell? ⟨g, 6, none⟩ = some (.func (.func 104) #[] #[])
theorem KC.lt {w : World} {g : Nat} (h : KC w g) : g < w.heap.size := by
  by_cases hl : g < w.heap.size
  · exact hl
  · have := h.1
    simp [World.cell?, Array.getElem?_eq_none (Nat.le_of_not_lt hl)] at this
theorem KC.below {w w' : World} {g : Nat} (h : KC w g) (hb : Below w.heap.size w w') : KC w' g :=
  ⟨(hb.cell (p := ⟨g, 0, none⟩) h.lt).trans h.1, (hb.cell (p := ⟨g, 1, none⟩) h.lt).trans h.2.1, (hb.cell (p := ⟨g, 6, none⟩) h.lt).trans h.2.2⟩
end Go.Proofs.YtggfifchkecnjaaGreatDoor

/- Contracts of LowerText, the program's and the specification's, at every string of at most 2^40 bytes. -/
namespace Go.Proofs.YtggfifchkecnjaaGreatDoor
open Go.RowKit
set_option maxRecDepth 100000
set_option linter.unusedVariables false

theorem lowerOf_byte {x : Int} (h0 : 0 ≤ x) (h1 : x ≤ 255) : 0 ≤ lowerOf x ∧ lowerOf x ≤ 255 := by
  unfold lowerOf
  by_cases h : 65 ≤ x ∧ x ≤ 90
  · rw [inB_yes h.1 h.2, if_pos rfl]; omega
  · rw [inB_no (by omega), if_neg (by decide)]; omega
def lowAt (k : Nat) (xs : List Int) : List Int := (xs.take k).map lowerOf ++ xs.drop k
theorem lowAt_len (k : Nat) (xs : List Int) : (lowAt k xs).length = xs.length := by simp [lowAt]; omega
theorem lowAt_zero (xs : List Int) : lowAt 0 xs = xs := by simp [lowAt]
theorem lowAt_all (xs : List Int) : lowAt xs.length xs = xs.map lowerOf := by simp [lowAt]
theorem lowAt_get {k : Nat} {xs : List Int} (h : k < xs.length) : (lowAt k xs).getD k 0 = xs.getD k 0 := by
  have hl : ((xs.take k).map lowerOf).length = k := by simp; omega
  rw [List.getD_eq_getElem?_getD, List.getD_eq_getElem?_getD, lowAt, List.getElem?_append_right (by omega), hl, Nat.sub_self]
  simp [h]
theorem lowAt_set {k : Nat} {xs : List Int} (h : k < xs.length) : (lowAt k xs).set k (lowerOf (xs.getD k 0)) = lowAt (k + 1) xs := by
  have hl : ((xs.take k).map lowerOf).length = k := by simp; omega
  have hg : xs.getD k 0 = xs[k] := by simp [List.getD_eq_getElem?_getD, h]
  rw [lowAt, List.set_append_right _ _ (by omega), hl, Nat.sub_self, List.drop_eq_getElem_cons h, List.set_cons_zero, lowAt, List.take_succ_eq_append_getElem h, hg, List.map_append, List.append_assoc]
  rfl
theorem low_byte {xs : List Int} (h : ∀ x ∈ xs, 0 ≤ x ∧ x ≤ 255) : ∀ x ∈ xs.map lowerOf, 0 ≤ x ∧ x ≤ 255 := by
  intro x hx
  obtain ⟨y, hy, rfl⟩ := List.mem_map.mp hx
  exact lowerOf_byte (h y hy).1 (h y hy).2

set_option maxRecDepth 100000 in
theorem ilowerText_any (s : ByteArray) (w : World) (hs : s.size ≤ 1099511627776) :
    Calls Tryz.prog 138 #[.string s] w fun e w' => e = .returned (.string (strOf ((bs s).map lowerOf))) ∧ Below w.heap.size w w' := by
  obtain ⟨cap, w1, hc, hk, hcap, hm, hb⟩ := conv_str s w (by unfold maxLen; omega)
  have hl := bs_len s
  go_enter Tryz.func138, Tryz.ntmps138
  go_wp2
  go_loopw [10] (fun i wr => ∃ k : Nat, k ≤ s.size ∧ i = .int .i64 k ∧ Blk .u8 5 wr w.heap.size (lowAt k (bs s)) ∧ Below w.heap.size w wr) (fun i _ => s.size - (intOf i).toNat)
  case atStart => exact ⟨0, Nat.zero_le _, rfl, by rw [lowAt_zero]; exact hk, hb⟩
  case round =>
    clear hc hk hb
    obtain ⟨k, hks, rfl, hk, hb⟩ := hrel
    by_cases hlt : k < s.size
    · have c0 := hk.cell k (by rw [lowAt_len]; omega)
      rw [lowAt_get (by omega)] at c0
      have hbk := bs_bound s k
      obtain ⟨y, hy⟩ : ∃ y, y = (bs s).getD k 0 := ⟨_, rfl⟩
      rw [← hy] at c0 hbk
      have HY : Hid (y = (bs s).getD k 0) := hy
      clear hy
      have hlb := lowerOf_byte hbk.1 hbk.2
      go_wp2_with fail
      go_at_call 132
      refine (ilower_any _ _).mono ?_
      rintro e w2 ⟨rfl, b2⟩
      have hk2 := hk.below b2
      have f2 := hk2.frozen k (by rw [lowAt_len]; omega)
      have c2 := hk2.cell k (by rw [lowAt_len]; omega)
      have hb2 := hb.trans (b2.mono hb.size)
      obtain ⟨z, hz⟩ : ∃ z, z = lowerOf y := ⟨_, rfl⟩
      rw [← hz] at hlb ⊢
      have HZ : Hid (z = lowerOf y) := hz
      have ez : z % 256 = z := by omega
      clear c0 b2 hk hb hz
      go_wp2
      go_roundw
      case rel =>
        refine ⟨k + 1, by omega, by go_num, ?_, hb2.setCell (Nat.le_refl _) _⟩
        have := hk2.set k (by rw [lowAt_len]; omega) z
        rw [HZ.out, HY.out, lowAt_set (by omega), ← HY.out, ← HZ.out] at this
        exact this
      case measure => simp [intOf]; omega
    · have hkk : k = s.size := by omega
      subst hkk
      rw [← hl, lowAt_all] at hk
      have hsl := hk.sl (n := s.size) (cap := cap) (by simpa using hl.symm) (by simpa using by omega) hm
      have cv := conv_sl hsl
      go_wp2
      go_ret
      exact ⟨rfl, hb⟩

end Go.Proofs.YtggfifchkecnjaaGreatDoor

/- The plain mathematics of FnUtf: of any bytes points alone are read, and they are read again from their own bytes as the same. No condition. -/
namespace Go.Proofs.YtggfifchkecnjaaGreatDoor
end Go.Proofs.YtggfifchkecnjaaGreatDoor

/- Contracts of the specification's functions on references. -/
namespace Go.Proofs.YtggfifchkecnjaaGreatDoor
open Go.RowKit
set_option maxRecDepth 100000
set_option linter.unusedVariables false

def oldCells : Array Value := #[.int .i64 8364, .int .i64 129, .int .i64 8218, .int .i64 402, .int .i64 8222, .int .i64 8230, .int .i64 8224, .int .i64 8225, .int .i64 710, .int .i64 8240, .int .i64 352, .int .i64 8249, .int .i64 338, .int .i64 141, .int .i64 381, .int .i64 143, .int .i64 144, .int .i64 8216, .int .i64 8217, .int .i64 8220, .int .i64 8221, .int .i64 8226, .int .i64 8211, .int .i64 8212, .int .i64 732, .int .i64 8482, .int .i64 353, .int .i64 8250, .int .i64 339, .int .i64 157, .int .i64 382, .int .i64 376]
theorem oldCells_at (k : Nat) (h : k < 32) : oldCells[k]? = some (.int .i64 (oldPoints.getD k 0)) := by
  have e : oldCells.toList = oldPoints.map (Value.int .i64) := rfl
  have : oldCells.toList[k]? = some (.int .i64 (oldPoints.getD k 0)) := by
    rw [e, List.getElem?_map]
    have hl : k < oldPoints.length := h
    simp [List.getD_eq_getElem?_getD, hl]
  simpa using this

theorem srefNumber_any (x : Int) (w : World) : Calls Tryz.prog 124 #[.int .i64 x] w fun e w' => e = .returned (.int .i64 (refNumber x)) ∧ Below w.heap.size w w' := by
  have c1 := fun w => sok_any x w
  have c2 := fun w => l1In_any x 128 159 w
  by_cases h0 : x = 0
  · subst h0
    go_enter Tryz.func124, Tryz.ntmps124
    go_wp2
    go_ret
    exact ⟨rfl, Below.refl _ _⟩
  have e0 : (x == 0) = false := by simpa using h0
  rcases hp : pointOk x with _ | _
  · have hr : refNumber x = 65533 := by unfold refNumber; rw [if_pos (.inr hp)]
    rw [hp] at c1
    rw [hr]
    clear hp hr
    go_enter Tryz.func124, Tryz.ntmps124
    go_wp2_with fail
    go_at_call 123
    refine (c1 _).mono ?_
    rintro e w1 ⟨rfl, rfl⟩
    go_wp2
    go_ret
    exact ⟨rfl, Below.refl _ _⟩
  · rw [hp] at c1
    by_cases h1 : 128 ≤ x ∧ x ≤ 159
    · have hr : refNumber x = oldPoints.getD (x - 128).toNat 0 := by unfold refNumber; rw [if_neg (by simp [h0, hp]), inB_yes h1.1 h1.2]; rfl
      rw [inB_yes h1.1 h1.2] at c2
      rw [hr]
      obtain ⟨k, rfl⟩ : ∃ k : Nat, x = 128 + k := ⟨(x - 128).toNat, by omega⟩
      have ek : ((128 : Int) + k - 128).toNat = k := by omega
      rw [ek]
      have hk : k < 32 := by omega
      have hc : ∀ w : World, (w.alloc (.cells oldCells 3)).cell? ⟨w.heap.size, k, none⟩ = some (.int .i64 (oldPoints.getD k 0)) := fun w => by
        rw [World.cell?_alloc_mark]; exact oldCells_at k hk
      unfold oldCells at hc
      obtain ⟨y, hy⟩ : ∃ y, y = oldPoints.getD k 0 := ⟨_, rfl⟩
      rw [← hy] at hc ⊢
      clear hy hp hr h1
      go_enter Tryz.func124, Tryz.ntmps124
      go_wp2_with fail
      go_at_call 123
      refine (c1 _).mono ?_
      rintro e w1 ⟨rfl, rfl⟩
      go_wp2_with fail
      go_at_call 42
      refine (c2 _).mono ?_
      rintro e w1 ⟨rfl, rfl⟩
      go_wp2
      go_ret
      exact ⟨rfl, (Below.refl _ _).alloc (Nat.le_refl _) _⟩
    · have hn := inB_no (x := x) (lo := 128) (hi := 159) (by omega)
      have hr : refNumber x = x := by unfold refNumber; rw [if_neg (by simp [h0, hp]), hn]; rfl
      rw [hn] at c2
      rw [hr]
      clear hp hr h1 hn
      go_enter Tryz.func124, Tryz.ntmps124
      go_wp2_with fail
      go_at_call 123
      refine (c1 _).mono ?_
      rintro e w1 ⟨rfl, rfl⟩
      go_wp2_with fail
      go_at_call 42
      refine (c2 _).mono ?_
      rintro e w1 ⟨rfl, rfl⟩
      go_wp2
      go_ret
      exact ⟨rfl, Below.refl _ _⟩

theorem l3At_any {v : Value} {xs : List Int} {w : World} (h : Sl .i64 w v xs) (k : Nat) (hn : xs.length ≤ 1099511627776) :
    Calls Tryz.prog 78 #[v, .int .i64 k] w fun e w' => e = .returned (.int .i64 (atL xs k)) ∧ w' = w := by
  obtain ⟨a, ca, rfl, _, _, _, ha⟩ := h
  by_cases hk : k < xs.length
  · rw [atL_in hk]
    obtain ⟨b1, o1, rfl, c1⟩ := ha k hk
    clear ha
    obtain ⟨y, hy⟩ : ∃ y, y = xs.getD k 0 := ⟨_, rfl⟩
    rw [← hy] at c1 ⊢
    clear hy
    go_enter Tryz.func78, Tryz.ntmps78
    go_wp2
    go_ret
    exact ⟨rfl, rfl⟩
  · rw [atL_out (by omega)]
    clear ha
    go_enter Tryz.func78, Tryz.ntmps78
    go_wp2
    go_ret
    exact ⟨rfl, rfl⟩
end Go.Proofs.YtggfifchkecnjaaGreatDoor

/- The contract of the laws' marks of texts: the text for a number hangs on the number alone. -/
namespace Go.Proofs.YtggfifchkecnjaaGreatDoor
open Go.RowKit
set_option maxRecDepth 100000
set_option linter.unusedVariables false

def mtF : Nat → Nat → ByteArray → ByteArray
  | 0, _, s => s
  | n + 1, k, s => if k = 0 then s else mtF n (k / 10) (strOf [48 + (k : Int) % 10] ++ s)
def mt (k : Int) : ByteArray := if k ≤ 0 then ⟨#[109, 48]⟩ else ⟨#[109]⟩ ++ mtF k.toNat k.toNat ⟨#[]⟩

theorem one_sl (w : World) (x : Int) : Sl .u8 (w.alloc (.cells #[.int .u8 x] 5)) (.slice (some ⟨w.heap.size, 0, none⟩) 1 1) [x] :=
  Own.sl (World.ownsRow_lit w #[.int .u8 x] 1 (Nat.le_refl _) (by unfold maxLen; omega) rfl : Own w.heap.size 5 .u8 _ _ [x])

theorem mtF_nought (n : Nat) (s : ByteArray) : mtF n 0 s = s := by
  cases n
  · rfl
  · unfold mtF; rw [if_pos rfl]

set_option maxHeartbeats 1000000 in
set_option maxRecDepth 100000 in
theorem markText_any (k0 : Int) (w : World) (hk : k0 ≤ 1099511627776) : Calls Tryz.prog 32 #[.int .i64 k0] w fun e w' => e = .returned (.string (mt k0)) ∧ Below w.heap.size w w' := by
  by_cases h0 : k0 ≤ 0
  · have hm : mt k0 = ⟨#[109, 48]⟩ := by unfold mt; rw [if_pos h0]
    rw [hm]
    go_enter Tryz.func32, Tryz.ntmps32
    go_wp2
    go_ret
    exact ⟨rfl, Below.refl _ _⟩
  · obtain ⟨k, rfl⟩ : ∃ k : Nat, k0 = k := ⟨k0.toNat, by omega⟩
    have hm : mt k = ⟨#[109]⟩ ++ mtF k k ⟨#[]⟩ := by unfold mt; rw [if_neg h0, Int.toNat_natCast]
    rw [hm]
    have HM := (show Hid _ from hm)
    clear hm
    go_enter Tryz.func32, Tryz.ntmps32
    go_wp2
    go_loopw [0, 3] (fun i u wr => ∃ (n j : Nat) (s : ByteArray), i = .int .i64 j ∧ u = .string s ∧ j ≤ n ∧ s.size + j ≤ k ∧ mtF n j s = mtF k k ⟨#[]⟩ ∧ Below w.heap.size w wr) (fun i _ _ => (intOf i).toNat)
    case atStart => exact ⟨k, k, ⟨#[]⟩, rfl, rfl, Nat.le_refl _, by show 0 + k ≤ k; omega, rfl, Below.refl _ _⟩
    case round =>
      obtain ⟨n, j, s, rfl, rfl, hj, hs, he, bel⟩ := hrel
      have HE := (show Hid (mtF n j s = mtF k k ⟨#[]⟩) from he)
      clear he
      by_cases hj0 : 0 < j
      · have hmod : 0 ≤ (j : Int) % 10 ∧ (j : Int) % 10 < 10 := ⟨Int.emod_nonneg _ (by decide), Int.emod_lt_of_pos _ (by decide)⟩
        have cv := conv_sl (one_sl wr (48 + (j : Int) % 10))
        have hz := strOf_size [48 + (j : Int) % 10]
        obtain ⟨t, ht⟩ : ∃ t, t = strOf [48 + (j : Int) % 10] := ⟨_, rfl⟩
        rw [← ht] at cv hz
        have HT := (show Hid (t = strOf [48 + (j : Int) % 10]) from ht)
        clear ht
        have hadd := run_string_add_sum (P := Tryz.prog) (wr.alloc (.cells #[.int .u8 (48 + (j : Int) % 10)] 5)) t s (by simp at hz; omega)
        go_wp2
        go_roundw
        case rel =>
          refine ⟨n - 1, j / 10, t ++ s, by go_num, rfl, by omega, ?_, ?_, bel.alloc bel.size _⟩
          · rw [add_size, hz]; simp; omega
          · rw [← HE.out, HT.out]
            obtain ⟨n, rfl⟩ : ∃ m, n = m + 1 := ⟨n - 1, by omega⟩
            rw [Nat.add_sub_cancel]
            conv => rhs; unfold mtF
            rw [if_neg (by omega)]
        case measure => simp [intOf]; omega
      · have hj1 : j = 0 := by omega
        subst hj1
        have he := HE.out
        rw [mtF_nought] at he
        have hadd := run_string_add_sum (P := Tryz.prog) wr ⟨#[109]⟩ s (by have : (⟨#[109]⟩ : ByteArray).size = 1 := rfl; omega)
        have HE2 := (show Hid _ from he)
        clear he HE
        go_wp2
        go_ret
        exact ⟨by rw [← HE2.out]; rfl, bel⟩
end Go.Proofs.YtggfifchkecnjaaGreatDoor
