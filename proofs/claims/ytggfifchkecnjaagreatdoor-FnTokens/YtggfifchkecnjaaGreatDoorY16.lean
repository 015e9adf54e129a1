/- Contracts of NameOk, the program's and the specification's, at every string of at most 2^40 bytes. -/
import Derived.Test.YtggfifchkecnjaaGreatDoorY13
import Derived.Test.YtggfifchkecnjaaGreatDoorY8
import Derived.Deep.RegionHeld
import Derived.Test.YtggfifchkecnjaaGreatDoorY14
import Derived.Test.YtggfifchkecnjaaGreatDoorY6
import Derived.Test.YtggfifchkecnjaaGreatDoorY10
import Derived.Test.YtggfifchkecnjaaGreatDoorY3
import Derived.Test.YtggfifchkecnjaaGreatDoorY15
namespace Go.Proofs.YtggfifchkecnjaaGreatDoor
open Go.RowKit
set_option maxRecDepth 100000
set_option linter.unusedVariables false

def badB (x : Int) : Bool := isBlank x || inB x 65 90 || isBar x
def nameOk (xs : List Int) : Bool := inB xs.length 1 60 && utfOk xs && inB (xs.getD 0 0) 97 122 && !(xs.any badB)

theorem wrap_byte {x : Int} (h0 : 0 ≤ x) (h1 : x ≤ 255) : IntKind.i64.wrap x = x := by
  have h : x % 2 ^ 64 = x := by omega
  simp only [IntKind.wrap, IntKind.bits, h]
  rw [if_neg]
  simp; omega

def KC (w : World) (g : Nat) : Prop := w.cell? ⟨g, 0, none⟩ = some (.func (.func 98) #[] #[]) ∧ w.cell? ⟨g, 1, none⟩ = some (.func (.func 99) #[] #[]) ∧ w.cell? ⟨g, 6, none⟩ = some (.func (.func 104) #[] #[])
theorem KC.lt {w : World} {g : Nat} (h : KC w g) : g < w.heap.size := by
  by_cases hl : g < w.heap.size
  · exact hl
  · have := h.1
    simp [World.cell?, Array.getElem?_eq_none (Nat.le_of_not_lt hl)] at this
theorem KC.below {w w' : World} {g : Nat} (h : KC w g) (hb : Below w.heap.size w w') : KC w' g :=
  ⟨(hb.cell (p := ⟨g, 0, none⟩) h.lt).trans h.1, (hb.cell (p := ⟨g, 1, none⟩) h.lt).trans h.2.1, (hb.cell (p := ⟨g, 6, none⟩) h.lt).trans h.2.2⟩
theorem any_succ {xs : List Int} {k : Nat} (h : k < xs.length) : (xs.take (k + 1)).any badB = ((xs.take k).any badB || badB (xs.getD k 0)) := by
  have hg : xs.getD k 0 = xs[k] := by simp [List.getD_eq_getElem?_getD, h]
  rw [List.take_succ_eq_append_getElem h, hg, List.any_append]
  simp only [List.any_cons, List.any_nil, Bool.or_false]
theorem any_of {xs : List Int} {k : Nat} (h : k < xs.length) (hb : badB (xs.getD k 0) = true) : xs.any badB = true := by
  have hg : xs.getD k 0 = xs[k] := by simp [List.getD_eq_getElem?_getD, h]
  rw [hg] at hb
  exact List.any_eq_true.mpr ⟨_, List.getElem_mem h, hb⟩

set_option maxHeartbeats 2000000 in
set_option maxRecDepth 100000 in
theorem inameOk_any (s : ByteArray) (w : World) (hs : s.size ≤ 1099511627776) :
    Calls Tryz.prog 28 #[.string s] w fun e w' => e = .returned (.bool (nameOk (bs s))) ∧ Below w.heap.size w w' := by
  have hl := bs_len s
  by_cases h1 : s.size < 1 ∨ 60 < s.size
  · have hn : nameOk (bs s) = false := by unfold nameOk; rw [hl, inB_no (by omega)]; rfl
    rw [hn]
    rcases h1 with h1 | h1
    · go_enter Tryz.func28, Tryz.ntmps28
      go_wp2
      go_ret
      exact ⟨rfl, Below.refl _ _⟩
    · go_enter Tryz.func28, Tryz.ntmps28
      go_wp2
      go_ret
      exact ⟨rfl, Below.refl _ _⟩
  · have h2 : 1 ≤ s.size := by omega
    have h3 : s.size ≤ 60 := by omega
    have h4 : 0 < s.size := by omega
    clear h1
    obtain ⟨cap, w1, hc, hk, hcap, hm, hb⟩ := conv_str s w (by unfold maxLen; omega)
    have hsl := hk.sl (n := s.size) (cap := cap) (by omega) (by omega) hm
    have hu := iutfOk_any hsl (bs_byte s) (by omega)
    have e1 : nameOk (bs s) = (utfOk (bs s) && inB ((bs s).getD 0 0) 97 122 && !((bs s).any badB)) := by unfold nameOk; rw [hl, inB_yes (by omega) (by omega)]; rfl
    obtain ⟨u, eu⟩ : ∃ u, u = utfOk (bs s) := ⟨_, rfl⟩
    rw [e1]
    rw [← eu] at hu ⊢
    clear e1 eu hk
    cases u
    · go_enter Tryz.func28, Tryz.ntmps28
      go_wp2_with fail
      go_at_call 52
      refine hu.mono ?_
      rintro e w2 ⟨rfl, b2⟩
      go_wp2
      go_ret
      exact ⟨rfl, hb.trans (b2.mono hb.size)⟩
    · have hat0 := bs_at s 0 (by omega)
      have hbd0 := bs_bound s 0
      obtain ⟨y, hy⟩ : ∃ y, y = (bs s).getD 0 0 := ⟨_, rfl⟩
      rw [← hy] at hat0 hbd0 ⊢
      clear hy
      have hk3 := fun w => k3_any y w
      obtain ⟨a, ha⟩ : ∃ a, a = inB y 97 122 := ⟨_, rfl⟩
      rw [← ha] at hk3 ⊢
      clear ha
      go_enter Tryz.func28, Tryz.ntmps28
      go_wp2_with fail
      go_at_call 52
      refine hu.mono ?_
      rintro e w2 ⟨rfl, b2⟩
      replace b2 := hb.trans (b2.mono hb.size)
      clear hu hc hsl hb
      go_wp2_with fail
      go_at_call 55
      refine (pointKinds_any _).mono ?_
      rintro e w3 ⟨rfl, b3⟩
      replace b3 := b2.trans (b3.mono b2.size)
      clear b2
      go_wp2
      go_quiet ((go_at_call 100; refine Calls.quiet_of_same (hk3 _)))
      cases a
      · go_wp2
        go_ret
        exact ⟨rfl, (b3.alloc b3.size _).trans (below_drewN _)⟩
      · have kc : KC ((w3.alloc (.cells #[.func (.func 98) #[] #[], .func (.func 99) #[] #[], .func (.func 100) #[] #[], .func (.func 101) #[] #[], .func (.func 102) #[] #[], .func (.func 103) #[] #[], .func (.func 104) #[] #[]] 77)).drewN nq) w3.heap.size := by
          refine ⟨?_, ?_, ?_⟩
          · simp
          · simp
          · simp
        have bel := (b3.alloc b3.size (.cells #[.func (.func 98) #[] #[], .func (.func 99) #[] #[], .func (.func 100) #[] #[], .func (.func 101) #[] #[], .func (.func 102) #[] #[], .func (.func 103) #[] #[], .func (.func 104) #[] #[]] 77)).trans (below_drewN nq)
        clear hat0 hbd0 hk3 b3
        simp only [Bool.not_true]
        go_wp2
        go_loopw [29] (fun i wr => ∃ k : Nat, k ≤ s.size ∧ i = .int .i64 k ∧ ((bs s).take k).any badB = false ∧ KC wr w3.heap.size ∧ Below w.heap.size w wr) (fun i _ => s.size - (intOf i).toNat)
        case atStart => exact ⟨0, Nat.zero_le _, rfl, by simp, kc, bel⟩
        case round =>
          clear kc bel
          obtain ⟨k, hks, rfl, hno, kc, bel⟩ := hrel
          have HN : Hid (((bs s).take k).any badB = false) := hno
          clear hno
          by_cases hlt : k < s.size
          · have hat := bs_at s k hlt
            have hbk := bs_bound s k
            have HA : Hid (((bs s).take (k + 1)).any badB = (((bs s).take k).any badB || badB ((bs s).getD k 0))) := any_succ (by omega)
            have HO : Hid (badB ((bs s).getD k 0) = true → (bs s).any badB = true) := any_of (by omega)
            obtain ⟨x, hx⟩ : ∃ x, x = (bs s).getD k 0 := ⟨_, rfl⟩
            rw [← hx] at hat hbk HA HO
            have hwx : IntKind.i64.wrap x = x := wrap_byte hbk.1 hbk.2
            clear hx
            have hany : ∀ (b : Nat) (w : World), w.cell? ⟨b, 0, none⟩ = some (.func (.func 98) #[] #[]) → w.cell? ⟨b, 1, none⟩ = some (.func (.func 99) #[] #[]) → w.cell? ⟨b, 2, none⟩ = some (.func (.func 104) #[] #[]) →
                Calls Tryz.prog 56 #[.int .i64 x, .slice (some ⟨b, 0, none⟩) 3 3] w fun e w' => e = .returned (.bool (badB x)) ∧ w' = w := fun b w h0 h1 h2 => any3_any x h0 h1 h2
            obtain ⟨p, hp⟩ : ∃ p, p = badB x := ⟨_, rfl⟩
            rw [← hp] at hany HA HO
            have HANY := (show Hid _ from hany)
            clear hp hany
            obtain ⟨c0, c1, c6⟩ := kc
            have KCC : Hid (KC wr w3.heap.size) := ⟨c0, c1, c6⟩
            go_wp2
            go_region_held (fun w' => w'.cell? ⟨w3.heap.size, 0, none⟩ = some (.func (.func 98) #[] #[]) ∧ w'.cell? ⟨w3.heap.size, 1, none⟩ = some (.func (.func 99) #[] #[]) ∧ w'.cell? ⟨w3.heap.size, 6, none⟩ = some (.func (.func 104) #[] #[])) (go_keep)
              ((go_at_call 56; refine (HANY.out _ _ (by simp) (by simp) (by simp)).mono ?_; rintro e w4 ⟨rfl, rfl⟩))
            all_goals
              have hbs := bel.size
              have hba := (bel.alloc hbs (.cells #[.func (.func 98) #[] #[], .func (.func 99) #[] #[], .func (.func 104) #[] #[]] 76))
              have hkc := KCC.out.below ((Below.refl _ wr).alloc (Nat.le_refl _) (.cells #[.func (.func 98) #[] #[], .func (.func 99) #[] #[], .func (.func 104) #[] #[]] 76))
              replace hba := hba.trans (below_drewN 1)
              replace hkc := hkc.below (below_drewN 1)
              cases p
              · go_wp2
                go_roundw
                case rel => exact ⟨k + 1, by omega, by go_num, by rw [HA.out, HN.out]; rfl, hkc, hba⟩
                case measure => simp [intOf]; omega
              · go_wp2
                go_ret
                exact ⟨ret_bool (by rw [HO.out (by simp)]; rfl), hba⟩
          · have hkk : k = s.size := by omega
            subst hkk
            have hf : (bs s).any badB = false := by have := HN.out; rw [← hl, List.take_length] at this; exact this
            go_wp2
            go_ret
            exact ⟨ret_bool (by rw [hf]; rfl), bel⟩
end Go.Proofs.YtggfifchkecnjaaGreatDoor

/- Contracts of LowerText, the program's and the specification's, at every string of at most 2^40 bytes. -/
namespace Go.Proofs.YtggfifchkecnjaaGreatDoor
open Go.RowKit
set_option maxRecDepth 100000
set_option linter.unusedVariables false

theorem lowerOf_byte {x : Int} (h0 : 0 ≤ x) (h1 : x ≤ 255) : 0 ≤ lowerOf x ∧ lowerOf x ≤ 255 := by
  unfold lowerOf
  by_cases h : 65 ≤ x ∧ x ≤ 90
  · rw [inB_yes h.1 h.2, if_pos rfl]; omega
  · rw [inB_no (by omega), if_neg (by decide)]; omega
def lowAt (k : Nat) (xs : List Int) : List Int := (xs.take k).map lowerOf ++ xs.drop k
theorem lowAt_len (k : Nat) (xs : List Int) : (lowAt k xs).length = xs.length := by simp [lowAt]; omega
theorem lowAt_zero (xs : List Int) : lowAt 0 xs = xs := by simp [lowAt]
theorem lowAt_all (xs : List Int) : lowAt xs.length xs = xs.map lowerOf := by simp [lowAt]
theorem lowAt_get {k : Nat} {xs : List Int} (h : k < xs.length) : (lowAt k xs).getD k 0 = xs.getD k 0 := by
  have hl : ((xs.take k).map lowerOf).length = k := by simp; omega
  rw [List.getD_eq_getElem?_getD, List.getD_eq_getElem?_getD, lowAt, List.getElem?_append_right (by omega), hl, Nat.sub_self]
  simp [h]
theorem lowAt_set {k : Nat} {xs : List Int} (h : k < xs.length) : (lowAt k xs).set k (lowerOf (xs.getD k 0)) = lowAt (k + 1) xs := by
  have hl : ((xs.take k).map lowerOf).length = k := by simp; omega
  have hg : xs.getD k 0 = xs[k] := by simp [List.getD_eq_getElem?_getD, h]
  rw [lowAt, List.set_append_right _ _ (by omega), hl, Nat.sub_self, List.drop_eq_getElem_cons h, List.set_cons_zero, lowAt, List.take_succ_eq_append_getElem h, hg, List.map_append, List.append_assoc]
  rfl
theorem low_byte {xs : List Int} (h : ∀ x ∈ xs, 0 ≤ x ∧ x ≤ 255) : ∀ x ∈ xs.map lowerOf, 0 ≤ x ∧ x ≤ 255 := by
  intro x hx
  obtain ⟨y, hy, rfl⟩ := List.mem_map.mp hx
  exact lowerOf_byte (h y hy).1 (h y hy).2

set_option maxRecDepth 100000 in
theorem ilowerText_any (s : ByteArray) (w : World) (hs : s.size ≤ 1099511627776) :
    Calls Tryz.prog 138 #[.string s] w fun e w' => e = .returned (.string (strOf ((bs s).map lowerOf))) ∧ Below w.heap.size w w' := by
  obtain ⟨cap, w1, hc, hk, hcap, hm, hb⟩ := conv_str s w (by unfold maxLen; omega)
  have hl := bs_len s
  go_enter Tryz.func138, Tryz.ntmps138
  go_wp2
  go_loopw [10] (fun i wr => ∃ k : Nat, k ≤ s.size ∧ i = .int .i64 k ∧ Blk .u8 5 wr w.heap.size (lowAt k (bs s)) ∧ Below w.heap.size w wr) (fun i _ => s.size - (intOf i).toNat)
  case atStart => exact ⟨0, Nat.zero_le _, rfl, by rw [lowAt_zero]; exact hk, hb⟩
  case round =>
    clear hc hk hb
    obtain ⟨k, hks, rfl, hk, hb⟩ := hrel
    by_cases hlt : k < s.size
    · have c0 := hk.cell k (by rw [lowAt_len]; omega)
      rw [lowAt_get (by omega)] at c0
      have hbk := bs_bound s k
      obtain ⟨y, hy⟩ : ∃ y, y = (bs s).getD k 0 := ⟨_, rfl⟩
      rw [← hy] at c0 hbk
      have HY : Hid (y = (bs s).getD k 0) := hy
      clear hy
      have hlb := lowerOf_byte hbk.1 hbk.2
      go_wp2_with fail
      go_at_call 132
      refine (ilower_any _ _).mono ?_
      rintro e w2 ⟨rfl, b2⟩
      have hk2 := hk.below b2
      have f2 := hk2.frozen k (by rw [lowAt_len]; omega)
      have c2 := hk2.cell k (by rw [lowAt_len]; omega)
      have hb2 := hb.trans (b2.mono hb.size)
      obtain ⟨z, hz⟩ : ∃ z, z = lowerOf y := ⟨_, rfl⟩
      rw [← hz] at hlb ⊢
      have HZ : Hid (z = lowerOf y) := hz
      have ez : z % 256 = z := by omega
      clear c0 b2 hk hb hz
      go_wp2
      go_roundw
      case rel =>
        refine ⟨k + 1, by omega, by go_num, ?_, hb2.setCell (Nat.le_refl _) _⟩
        have := hk2.set k (by rw [lowAt_len]; omega) z
        rw [HZ.out, HY.out, lowAt_set (by omega), ← HY.out, ← HZ.out] at this
        exact this
      case measure => simp [intOf]; omega
    · have hkk : k = s.size := by omega
      subst hkk
      rw [← hl, lowAt_all] at hk
      have hsl := hk.sl (n := s.size) (cap := cap) (by simpa using hl.symm) (by simpa using by omega) hm
      have cv := conv_sl hsl
      go_wp2
      go_ret
      exact ⟨rfl, hb⟩

end Go.Proofs.YtggfifchkecnjaaGreatDoor

/- The plain mathematics of FnUtf: of any bytes points alone are read, and they are read again from their own bytes as the same. No condition. -/
namespace Go.Proofs.YtggfifchkecnjaaGreatDoor

theorem tail1 (p lo hi : Int) (r : List Int) : (tailOf p 1 lo hi r).1 = 65533 ∨ ∃ c, lo ≤ c ∧ c ≤ hi ∧ (tailOf p 1 lo hi r).1 = p * 64 + c - 128 := by
  cases r with
  | nil => exact .inl rfl
  | cons c r =>
    by_cases h : lo ≤ c ∧ c ≤ hi
    · rw [tail_in p 0 r h.1 h.2]; exact .inr ⟨c, h.1, h.2, rfl⟩
    · rw [tail_out p 0 r (by omega)]; exact .inl rfl
theorem tail2 (p lo hi : Int) (r : List Int) : (tailOf p 2 lo hi r).1 = 65533 ∨ ∃ c d, lo ≤ c ∧ c ≤ hi ∧ 128 ≤ d ∧ d ≤ 191 ∧ (tailOf p 2 lo hi r).1 = (p * 64 + c - 128) * 64 + d - 128 := by
  cases r with
  | nil => exact .inl rfl
  | cons c r =>
    by_cases h : lo ≤ c ∧ c ≤ hi
    · rw [tail_in p 1 r h.1 h.2]
      rcases tail1 (p * 64 + c - 128) 128 191 r with e | ⟨d, d1, d2, e⟩
      · exact .inl e
      · exact .inr ⟨c, d, h.1, h.2, d1, d2, e⟩
    · rw [tail_out p 1 r (by omega)]; exact .inl rfl
theorem tail3 (p lo hi : Int) (r : List Int) : (tailOf p 3 lo hi r).1 = 65533 ∨ ∃ c d f, lo ≤ c ∧ c ≤ hi ∧ 128 ≤ d ∧ d ≤ 191 ∧ 128 ≤ f ∧ f ≤ 191 ∧ (tailOf p 3 lo hi r).1 = ((p * 64 + c - 128) * 64 + d - 128) * 64 + f - 128 := by
  cases r with
  | nil => exact .inl rfl
  | cons c r =>
    by_cases h : lo ≤ c ∧ c ≤ hi
    · rw [tail_in p 2 r h.1 h.2]
      rcases tail2 (p * 64 + c - 128) 128 191 r with e | ⟨d, f, d1, d2, f1, f2, e⟩
      · exact .inl e
      · exact .inr ⟨c, d, f, h.1, h.2, d1, d2, f1, f2, e⟩
    · rw [tail_out p 2 r (by omega)]; exact .inl rfl

theorem stepOf_ok {b : Int} (h0 : 0 ≤ b) (r : List Int) : pointOk (stepOf b r).1 = true := by
  unfold stepOf
  split
  · rw [pointOk_iff]; simp; omega
  split
  · rename_i h
    rcases tail1 (b - 192) (loOf b) (hiOf b) r with e | ⟨c, c1, c2, e⟩
    · rw [e]; rfl
    · rw [loOf_le (by omega) (by omega)] at c1
      rw [hiOf_le (by omega) (by omega)] at c2
      rw [e, pointOk_iff]; omega
  split
  · rename_i h
    rcases tail2 (b - 224) (loOf b) (hiOf b) r with e | ⟨c, d, c1, c2, d1, d2, e⟩
    · rw [e]; rfl
    · have hl : 128 ≤ loOf b ∧ (b = 224 → loOf b = 160) := ⟨(lo_hi b).1, fun e => by rw [e]; rfl⟩
      have hh : hiOf b ≤ 191 ∧ (b = 237 → hiOf b = 159) := ⟨(lo_hi b).2.2.2, fun e => by rw [e]; rfl⟩
      rw [e, pointOk_iff]
      by_cases e1 : b = 224
      · have := hl.2 e1; omega
      by_cases e2 : b = 237
      · have := hh.2 e2; omega
      · omega
  split
  · rename_i h
    rcases tail3 (b - 240) (loOf b) (hiOf b) r with e | ⟨c, d, f, c1, c2, d1, d2, f1, f2, e⟩
    · rw [e]; rfl
    · have hl : 128 ≤ loOf b ∧ (b = 240 → loOf b = 144) := ⟨(lo_hi b).1, fun e => by rw [e]; rfl⟩
      have hh : hiOf b ≤ 191 ∧ (b = 244 → hiOf b = 143) := ⟨(lo_hi b).2.2.2, fun e => by rw [e]; rfl⟩
      rw [e, pointOk_iff]
      by_cases e1 : b = 240
      · have := hl.2 e1; omega
      by_cases e2 : b = 244
      · have := hh.2 e2; omega
      · omega
  · rfl
theorem tailOf_mem (p : Int) (k : Nat) (lo hi : Int) (r : List Int) : ∀ y ∈ (tailOf p k lo hi r).2, y ∈ r := by
  induction k generalizing p lo hi r with
  | zero => intro y hy; exact hy
  | succ k ih =>
    cases r with
    | nil => intro y hy; exact hy
    | cons c r =>
      by_cases h : lo ≤ c ∧ c ≤ hi
      · rw [tail_in p k r h.1 h.2]
        intro y hy
        exact List.mem_cons_of_mem _ (ih _ _ _ _ y hy)
      · rw [tail_out p k r (by omega)]
        intro y hy; exact hy
theorem stepOf_mem (b : Int) (r : List Int) : ∀ y ∈ (stepOf b r).2, y ∈ r := by
  unfold stepOf; repeat' split
  all_goals first | exact fun y hy => tailOf_mem _ _ _ _ _ y hy | exact fun y hy => hy
theorem dec_ok (n : Nat) (l : List Int) (h : l.length ≤ n) (hb : ∀ y ∈ l, 0 ≤ y) : ∀ p ∈ dec l, pointOk p = true := by
  induction n generalizing l with
  | zero => have : l = [] := List.length_eq_zero_iff.mp (by omega)
            subst this; rw [dec_nil]; intro p hp; cases hp
  | succ n ih =>
    cases l with
    | nil => rw [dec_nil]; intro p hp; cases hp
    | cons b r =>
      rw [dec_cons]
      have h1 := stepOf_le b r
      intro p hp
      rcases List.mem_cons.mp hp with e | e
      · rw [e]; exact stepOf_ok (hb b (List.mem_cons_self ..)) r
      · exact ih (stepOf b r).2 (by simp at h; omega) (fun y hy => hb y (List.mem_cons_of_mem _ (stepOf_mem b r y hy))) p e
theorem enc_mark : enc 65279 = [239, 187, 191] := by decide
theorem dec_mark (r : List Int) : dec (239 :: 187 :: 191 :: r) = 65279 :: dec r := by
  have h := dec_enc (p := 65279) (by omega) (by omega) (by omega) r
  rw [enc_mark] at h; exact h
theorem dec_puts_ok {l : List Int} (h : ∀ p ∈ l, pointOk p = true) : dec (puts l) = l := by rw [dec_puts, map_pt h]
theorem unmark_other {l : List Int} (h : ∀ p ∈ l, pointOk p = true) (hh : ∀ t, l ≠ 65279 :: t) : unmark (puts l) = puts l := by
  unfold unmark
  split
  · rename_i ht
    exfalso
    have e : puts l = 239 :: 187 :: 191 :: (puts l).drop 3 := by
      conv => lhs; rw [← List.take_append_drop 3 (puts l), ht]
      rfl
    have d := dec_puts_ok h
    rw [e, dec_mark] at d
    exact hh _ d.symm
  · rfl

theorem again_other {l : List Int} (h : ∀ p ∈ l, pointOk p = true) (hh : ∀ t, l ≠ 65279 :: t) (hl : (puts l).length ≤ 3000) : utfRead (puts l) = l := by
  unfold utfRead; rw [if_pos hl, unmark_other h hh, dec_puts_ok h]
theorem ok_other {l : List Int} (h : ∀ p ∈ l, pointOk p = true) (hh : ∀ t, l ≠ 65279 :: t) (hl : (puts l).length ≤ 3000) (h3 : l.length ≤ 3000) : utfOk (puts l) = true := by
  rw [utfOk_yes hl, again_other h hh hl]
  unfold pointsPut; rw [if_pos h3]; simp
end Go.Proofs.YtggfifchkecnjaaGreatDoor

/- Contracts of the specification's functions on references. -/
namespace Go.Proofs.YtggfifchkecnjaaGreatDoor
open Go.RowKit
set_option maxRecDepth 100000
set_option linter.unusedVariables false

def oldCells : Array Value := #[.int .i64 8364, .int .i64 129, .int .i64 8218, .int .i64 402, .int .i64 8222, .int .i64 8230, .int .i64 8224, .int .i64 8225, .int .i64 710, .int .i64 8240, .int .i64 352, .int .i64 8249, .int .i64 338, .int .i64 141, .int .i64 381, .int .i64 143, .int .i64 144, .int .i64 8216, .int .i64 8217, .int .i64 8220, .int .i64 8221, .int .i64 8226, .int .i64 8211, .int .i64 8212, .int .i64 732, .int .i64 8482, .int .i64 353, .int .i64 8250, .int .i64 339, .int .i64 157, .int .i64 382, .int .i64 376]
theorem oldCells_at (k : Nat) (h : k < 32) : oldCells[k]? = some (.int .i64 (oldPoints.getD k 0)) := by
  have e : oldCells.toList = oldPoints.map (Value.int .i64) := rfl
  have : oldCells.toList[k]? = some (.int .i64 (oldPoints.getD k 0)) := by
    rw [e, List.getElem?_map]
    have hl : k < oldPoints.length := h
    simp [List.getD_eq_getElem?_getD, hl]
  simpa using this

theorem srefNumber_any (x : Int) (w : World) : Calls Tryz.prog 124 #[.int .i64 x] w fun e w' => e = .returned (.int .i64 (refNumber x)) ∧ Below w.heap.size w w' := by
  have c1 := fun w => sok_any x w
  have c2 := fun w => l1In_any x 128 159 w
  by_cases h0 : x = 0
  · subst h0
    go_enter Tryz.func124, Tryz.ntmps124
    go_wp2
    go_ret
    exact ⟨rfl, Below.refl _ _⟩
  have e0 : (x == 0) = false := by simpa using h0
  rcases hp : pointOk x with _ | _
  · have hr : refNumber x = 65533 := by unfold refNumber; rw [if_pos (.inr hp)]
    rw [hp] at c1
    rw [hr]
    clear hp hr
    go_enter Tryz.func124, Tryz.ntmps124
    go_wp2_with fail
    go_at_call 123
    refine (c1 _).mono ?_
    rintro e w1 ⟨rfl, rfl⟩
    go_wp2
    go_ret
    exact ⟨rfl, Below.refl _ _⟩
  · rw [hp] at c1
    by_cases h1 : 128 ≤ x ∧ x ≤ 159
    · have hr : refNumber x = oldPoints.getD (x - 128).toNat 0 := by unfold refNumber; rw [if_neg (by simp [h0, hp]), inB_yes h1.1 h1.2]; rfl
      rw [inB_yes h1.1 h1.2] at c2
      rw [hr]
      obtain ⟨k, rfl⟩ : ∃ k : Nat, x = 128 + k := ⟨(x - 128).toNat, by omega⟩
      have ek : ((128 : Int) + k - 128).toNat = k := by omega
      rw [ek]
      have hk : k < 32 := by omega
      have hc : ∀ w : World, (w.alloc (.cells oldCells 3)).cell? ⟨w.heap.size, k, none⟩ = some (.int .i64 (oldPoints.getD k 0)) := fun w => by
        rw [World.cell?_alloc_mark]; exact oldCells_at k hk
      unfold oldCells at hc
      obtain ⟨y, hy⟩ : ∃ y, y = oldPoints.getD k 0 := ⟨_, rfl⟩
      rw [← hy] at hc ⊢
      clear hy hp hr h1
      go_enter Tryz.func124, Tryz.ntmps124
      go_wp2_with fail
      go_at_call 123
      refine (c1 _).mono ?_
      rintro e w1 ⟨rfl, rfl⟩
      go_wp2_with fail
      go_at_call 42
      refine (c2 _).mono ?_
      rintro e w1 ⟨rfl, rfl⟩
      go_wp2
      go_ret
      exact ⟨rfl, (Below.refl _ _).alloc (Nat.le_refl _) _⟩
    · have hn := inB_no (x := x) (lo := 128) (hi := 159) (by omega)
      have hr : refNumber x = x := by unfold refNumber; rw [if_neg (by simp [h0, hp]), hn]; rfl
      rw [hn] at c2
      rw [hr]
      clear hp hr h1 hn
      go_enter Tryz.func124, Tryz.ntmps124
      go_wp2_with fail
      go_at_call 123
      refine (c1 _).mono ?_
      rintro e w1 ⟨rfl, rfl⟩
      go_wp2_with fail
      go_at_call 42
      refine (c2 _).mono ?_
      rintro e w1 ⟨rfl, rfl⟩
      go_wp2
      go_ret
      exact ⟨rfl, Below.refl _ _⟩

theorem l3At_any {v : Value} {xs : List Int} {w : World} (h : Sl .i64 w v xs) (k : Nat) (hn : xs.length ≤ 1099511627776) :
    Calls Tryz.prog 78 #[v, .int .i64 k] w fun e w' => e = .returned (.int .i64 (atL xs k)) ∧ w' = w := by
  obtain ⟨a, ca, rfl, _, _, _, ha⟩ := h
  by_cases hk : k < xs.length
  · rw [atL_in hk]
    obtain ⟨b1, o1, rfl, c1⟩ := ha k hk
    clear ha
    obtain ⟨y, hy⟩ : ∃ y, y = xs.getD k 0 := ⟨_, rfl⟩
    rw [← hy] at c1 ⊢
    clear hy
    go_enter Tryz.func78, Tryz.ntmps78
    go_wp2
    go_ret
    exact ⟨rfl, rfl⟩
  · rw [atL_out (by omega)]
    clear ha
    go_enter Tryz.func78, Tryz.ntmps78
    go_wp2
    go_ret
    exact ⟨rfl, rfl⟩
end Go.Proofs.YtggfifchkecnjaaGreatDoor

/- The contract of the laws' marks of texts: the text for a number hangs on the number alone. -/
namespace Go.Proofs.YtggfifchkecnjaaGreatDoor
open Go.RowKit
set_option maxRecDepth 100000
set_option linter.unusedVariables false

def mtF : Nat → Nat → ByteArray → ByteArray
  | 0, _, s => s
  | n + 1, k, s => if k = 0 then s else mtF n (k / 10) (strOf [48 + (k : Int) % 10] ++ s)
def mt (k : Int) : ByteArray := if k ≤ 0 then ⟨#[109, 48]⟩ else ⟨#[109]⟩ ++ mtF k.toNat k.toNat ⟨#[]⟩

end Go.Proofs.YtggfifchkecnjaaGreatDoor
