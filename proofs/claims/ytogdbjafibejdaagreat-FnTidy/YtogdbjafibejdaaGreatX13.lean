/- Contracts of NameOk, the program's and the specification's, at every string of at most 2^40 bytes. -/
import Derived.Test.YtogdbjafibejdaaGreatX8
import Derived.Test.YtogdbjafibejdaaGreatX12
import Derived.Deep.RegionHeld
import Derived.Test.YtogdbjafibejdaaGreatX10
import Derived.Test.YtogdbjafibejdaaGreatX1
namespace Go.Proofs.YtogdbjafibejdaaGreat
open Go.RowKit
set_option maxRecDepth 100000
set_option linter.unusedVariables false

def badB (x : Int) : Bool := isBlank x || inB x 65 90 || isBar x
def nameOk (xs : List Int) : Bool := inB xs.length 1 60 && utfOk xs && inB (xs.getD 0 0) 97 122 && !(xs.any badB)

theorem wrap_byte {x : Int} (h0 : 0 ≤ x) (h1 : x ≤ 255) : IntKind.i64.wrap x = x := by
  have h : x % 2 ^ 64 = x := by omega
  simp only [IntKind.wrap, IntKind.bits, h]
  rw [if_neg]
  simp; omega

/-- The three kinds that bar a byte of a name lie in the table in block g. -/
def KC (w : World) (g : Nat) : Prop := w.cell? ⟨g, 0, none⟩ = some (.func (.func 183) #[] #[]) ∧ w.cell? ⟨g, 1, none⟩ = some (.func (.func 184) #[] #[]) ∧ w.cell? ⟨g, 6, none⟩ = some (.func (.func 189) #[] #[])
theorem KC.lt {w : World} {g : Nat} (h : KC w g) : g < w.heap.size := by
  by_cases hl : g < w.heap.size
  · exact hl
  · have := h.1
    simp [World.cell?, Array.getElem?_eq_none (Nat.le_of_not_lt hl)] at this
theorem KC.below {w w' : World} {g : Nat} (h : KC w g) (hb : Below w.heap.size w w') : KC w' g :=
  ⟨(hb.cell (p := ⟨g, 0, none⟩) h.lt).trans h.1, (hb.cell (p := ⟨g, 1, none⟩) h.lt).trans h.2.1, (hb.cell (p := ⟨g, 6, none⟩) h.lt).trans h.2.2⟩
theorem any_succ {xs : List Int} {k : Nat} (h : k < xs.length) : (xs.take (k + 1)).any badB = ((xs.take k).any badB || badB (xs.getD k 0)) := by
  have hg : xs.getD k 0 = xs[k] := by simp [List.getD_eq_getElem?_getD, h]
  rw [List.take_succ_eq_append_getElem h, hg, List.any_append]
  simp only [List.any_cons, List.any_nil, Bool.or_false]
theorem any_of {xs : List Int} {k : Nat} (h : k < xs.length) (hb : badB (xs.getD k 0) = true) : xs.any badB = true := by
  have hg : xs.getD k 0 = xs[k] := by simp [List.getD_eq_getElem?_getD, h]
  rw [hg] at hb
  exact List.any_eq_true.mpr ⟨_, List.getElem_mem h, hb⟩

set_option maxHeartbeats 2000000 in
set_option maxRecDepth 100000 in
theorem inameOk_any (s : ByteArray) (w : World) (hs : s.size ≤ 1099511627776) :
    Calls Tryz.prog 110 #[.string s] w fun e w' => e = .returned (.bool (nameOk (bs s))) ∧ Below w.heap.size w w' := by
  have hl := bs_len s
  by_cases h1 : s.size < 1 ∨ 60 < s.size
  · have hn : nameOk (bs s) = false := by unfold nameOk; rw [hl, inB_no (by omega)]; rfl
    rw [hn]
    rcases h1 with h1 | h1
    · go_enter Tryz.func110, Tryz.ntmps110
      go_wp2
      go_ret
      exact ⟨rfl, Below.refl _ _⟩
    · go_enter Tryz.func110, Tryz.ntmps110
      go_wp2
      go_ret
      exact ⟨rfl, Below.refl _ _⟩
  · have h2 : 1 ≤ s.size := by omega
    have h3 : s.size ≤ 60 := by omega
    have h4 : 0 < s.size := by omega
    clear h1
    obtain ⟨cap, w1, hc, hk, hcap, hm, hb⟩ := conv_str s w (by unfold maxLen; omega)
    have hsl := hk.sl (n := s.size) (cap := cap) (by omega) (by omega) hm
    have hu := iutfOk_any hsl (bs_byte s) (by omega)
    have e1 : nameOk (bs s) = (utfOk (bs s) && inB ((bs s).getD 0 0) 97 122 && !((bs s).any badB)) := by unfold nameOk; rw [hl, inB_yes (by omega) (by omega)]; rfl
    obtain ⟨u, eu⟩ : ∃ u, u = utfOk (bs s) := ⟨_, rfl⟩
    rw [e1]
    rw [← eu] at hu ⊢
    clear e1 eu hk
    cases u
    · go_enter Tryz.func110, Tryz.ntmps110
      go_wp2_with fail
      go_at_call 153
      refine hu.mono ?_
      rintro e w2 ⟨rfl, b2⟩
      go_wp2
      go_ret
      exact ⟨rfl, hb.trans (b2.mono hb.size)⟩
    · have hat0 := bs_at s 0 (by omega)
      have hbd0 := bs_bound s 0
      obtain ⟨y, hy⟩ : ∃ y, y = (bs s).getD 0 0 := ⟨_, rfl⟩
      rw [← hy] at hat0 hbd0 ⊢
      clear hy
      have hk3 := fun w => k3_any y w
      obtain ⟨a, ha⟩ : ∃ a, a = inB y 97 122 := ⟨_, rfl⟩
      rw [← ha] at hk3 ⊢
      clear ha
      go_enter Tryz.func110, Tryz.ntmps110
      go_wp2_with fail
      go_at_call 153
      refine hu.mono ?_
      rintro e w2 ⟨rfl, b2⟩
      replace b2 := hb.trans (b2.mono hb.size)
      clear hu hc hsl hb
      go_wp2_with fail
      go_at_call 154
      refine (pointKinds_any _).mono ?_
      rintro e w3 ⟨rfl, b3⟩
      replace b3 := b2.trans (b3.mono b2.size)
      clear b2
      go_wp2
      go_quiet ((go_at_call 185; refine Calls.quiet_of_same (hk3 _)))
      cases a
      · go_wp2
        go_ret
        exact ⟨rfl, (b3.alloc b3.size _).trans (below_drewN _)⟩
      · have kc : KC ((w3.alloc (.cells #[.func (.func 183) #[] #[], .func (.func 184) #[] #[], .func (.func 185) #[] #[], .func (.func 186) #[] #[], .func (.func 187) #[] #[], .func (.func 188) #[] #[], .func (.func 189) #[] #[]] 170)).drewN nq) w3.heap.size := by
          refine ⟨?_, ?_, ?_⟩
          · simp
          · simp
          · simp
        have bel := (b3.alloc b3.size (.cells #[.func (.func 183) #[] #[], .func (.func 184) #[] #[], .func (.func 185) #[] #[], .func (.func 186) #[] #[], .func (.func 187) #[] #[], .func (.func 188) #[] #[], .func (.func 189) #[] #[]] 170)).trans (below_drewN nq)
        clear hat0 hbd0 hk3 b3
        simp only [Bool.not_true]
        go_wp2
        go_loopw [29] (fun i wr => ∃ k : Nat, k ≤ s.size ∧ i = .int .i64 k ∧ ((bs s).take k).any badB = false ∧ KC wr w3.heap.size ∧ Below w.heap.size w wr) (fun i _ => s.size - (intOf i).toNat)
        case atStart => exact ⟨0, Nat.zero_le _, rfl, by simp, kc, bel⟩
        case round =>
          clear kc bel
          obtain ⟨k, hks, rfl, hno, kc, bel⟩ := hrel
          have HN : Hid (((bs s).take k).any badB = false) := hno
          clear hno
          by_cases hlt : k < s.size
          · have hat := bs_at s k hlt
            have hbk := bs_bound s k
            have HA : Hid (((bs s).take (k + 1)).any badB = (((bs s).take k).any badB || badB ((bs s).getD k 0))) := any_succ (by omega)
            have HO : Hid (badB ((bs s).getD k 0) = true → (bs s).any badB = true) := any_of (by omega)
            obtain ⟨x, hx⟩ : ∃ x, x = (bs s).getD k 0 := ⟨_, rfl⟩
            rw [← hx] at hat hbk HA HO
            have hwx : IntKind.i64.wrap x = x := wrap_byte hbk.1 hbk.2
            clear hx
            have hany : ∀ (b : Nat) (w : World), w.cell? ⟨b, 0, none⟩ = some (.func (.func 183) #[] #[]) → w.cell? ⟨b, 1, none⟩ = some (.func (.func 184) #[] #[]) → w.cell? ⟨b, 2, none⟩ = some (.func (.func 189) #[] #[]) →
                Calls Tryz.prog 155 #[.int .i64 x, .slice (some ⟨b, 0, none⟩) 3 3] w fun e w' => e = .returned (.bool (badB x)) ∧ w' = w := fun b w h0 h1 h2 => any3_any x h0 h1 h2
            obtain ⟨p, hp⟩ : ∃ p, p = badB x := ⟨_, rfl⟩
            rw [← hp] at hany HA HO
            have HANY := (show Hid _ from hany)
            clear hp hany
            obtain ⟨c0, c1, c6⟩ := kc
            have KCC : Hid (KC wr w3.heap.size) := ⟨c0, c1, c6⟩
            go_wp2
            go_region_held (fun w' => w'.cell? ⟨w3.heap.size, 0, none⟩ = some (.func (.func 183) #[] #[]) ∧ w'.cell? ⟨w3.heap.size, 1, none⟩ = some (.func (.func 184) #[] #[]) ∧ w'.cell? ⟨w3.heap.size, 6, none⟩ = some (.func (.func 189) #[] #[])) (go_keep)
              ((go_at_call 155; refine (HANY.out _ _ (by simp) (by simp) (by simp)).mono ?_; rintro e w4 ⟨rfl, rfl⟩))
            all_goals
              have hbs := bel.size
              have hba := (bel.alloc hbs (.cells #[.func (.func 183) #[] #[], .func (.func 184) #[] #[], .func (.func 189) #[] #[]] 169))
              have hkc := KCC.out.below ((Below.refl _ wr).alloc (Nat.le_refl _) (.cells #[.func (.func 183) #[] #[], .func (.func 184) #[] #[], .func (.func 189) #[] #[]] 169))
              replace hba := hba.trans (below_drewN 1)
              replace hkc := hkc.below (below_drewN 1)
              cases p
              · go_wp2
                go_roundw
                case rel => exact ⟨k + 1, by omega, by go_num, by rw [HA.out, HN.out]; rfl, hkc, hba⟩
                case measure => simp [intOf]; omega
              · go_wp2
                go_ret
                exact ⟨ret_bool (by rw [HO.out (by simp)]; rfl), hba⟩
          · have hkk : k = s.size := by omega
            subst hkk
            have hf : (bs s).any badB = false := by have := HN.out; rw [← hl, List.take_length] at this; exact this
            go_wp2
            go_ret
            exact ⟨ret_bool (by rw [hf]; rfl), bel⟩
end Go.Proofs.YtogdbjafibejdaaGreat

/- Contracts of the specification's NameOk, at every string of at most 2^40 bytes. -/
namespace Go.Proofs.YtogdbjafibejdaaGreat
open Go.RowKit
set_option maxRecDepth 100000
set_option linter.unusedVariables false

theorem l1Ok_any (s : ByteArray) (w : World) (hs : s.size ≤ 1099511627776) : Calls Tryz.prog 71 #[.string s] w fun e w' => e = .returned (.bool (utfOk (bs s))) ∧ Below w.heap.size w w' := by
  obtain ⟨cap, w1, hc, hk, hcap, hm, hb⟩ := conv_str s w (by unfold maxLen; omega)
  have hl := bs_len s
  have hsl := hk.sl (n := s.size) (cap := cap) (by omega) (by omega) hm
  have hu := sutfOk_any hsl (bs_byte s) (by omega)
  clear hk
  go_enter Tryz.func71, Tryz.ntmps71
  go_wp2_with fail
  go_at_call 119
  refine hu.mono ?_
  rintro e w2 ⟨rfl, b2⟩
  go_wp2
  go_ret
  exact ⟨rfl, hb.trans (b2.mono hb.size)⟩

theorem isBar_iff (x : Int) : isBar x = true ↔ x = 0 ∨ x = 47 ∨ x = 62 := by simp [isBar, or_assoc]

set_option maxHeartbeats 4000000 in
set_option maxRecDepth 100000 in
theorem snameOk_any (s : ByteArray) (w : World) (hs : s.size ≤ 1099511627776) :
    Calls Tryz.prog 107 #[.string s] w fun e w' => e = .returned (.bool (nameOk (bs s))) ∧ Below w.heap.size w w' := by
  have hl := bs_len s
  have hin := fun w => l1In_any s.size 1 60 w
  by_cases h1 : s.size < 1 ∨ 60 < s.size
  · have hn : nameOk (bs s) = false := by unfold nameOk; rw [hl, inB_no (by omega)]; rfl
    rw [hn]
    rw [inB_no (by omega)] at hin
    go_enter Tryz.func107, Tryz.ntmps107
    go_wp2_with fail
    go_at_call 57
    refine (hin _).mono ?_
    rintro e w2 ⟨rfl, rfl⟩
    go_wp2
    go_ret
    exact ⟨rfl, Below.refl _ _⟩
  · have h2 : 1 ≤ s.size := by omega
    have h3 : s.size ≤ 60 := by omega
    have h4 : 0 < s.size := by omega
    clear h1
    rw [inB_yes (by omega) (by omega)] at hin
    have hu := fun w => l1Ok_any s w hs
    have e1 : nameOk (bs s) = (utfOk (bs s) && inB ((bs s).getD 0 0) 97 122 && !((bs s).any badB)) := by unfold nameOk; rw [hl, inB_yes (by omega) (by omega)]; rfl
    obtain ⟨u, eu⟩ : ∃ u, u = utfOk (bs s) := ⟨_, rfl⟩
    rw [e1]
    rw [← eu] at hu ⊢
    clear e1 eu
    cases u
    · go_enter Tryz.func107, Tryz.ntmps107
      go_wp2_with fail
      go_at_call 57
      refine (hin _).mono ?_
      rintro e w1 ⟨rfl, rfl⟩
      go_wp2_with fail
      go_at_call 71
      refine (hu _).mono ?_
      rintro e w2 ⟨rfl, b2⟩
      go_wp2
      go_ret
      exact ⟨rfl, b2⟩
    · have hat0 := bs_at s 0 (by omega)
      have hbd0 := bs_bound s 0
      obtain ⟨y, hy⟩ : ∃ y, y = (bs s).getD 0 0 := ⟨_, rfl⟩
      rw [← hy] at hat0 hbd0 ⊢
      clear hy
      by_cases ha : y < 97 ∨ 122 < y
      · rw [inB_no ha]
        rcases ha with ha | ha
        · go_enter Tryz.func107, Tryz.ntmps107
          go_wp2_with fail
          go_at_call 57
          refine (hin _).mono ?_
          rintro e w1 ⟨rfl, rfl⟩
          go_wp2_with fail
          go_at_call 71
          refine (hu _).mono ?_
          rintro e w2 ⟨rfl, b2⟩
          go_wp2
          go_ret
          exact ⟨rfl, b2⟩
        · go_enter Tryz.func107, Tryz.ntmps107
          go_wp2_with fail
          go_at_call 57
          refine (hin _).mono ?_
          rintro e w1 ⟨rfl, rfl⟩
          go_wp2_with fail
          go_at_call 71
          refine (hu _).mono ?_
          rintro e w2 ⟨rfl, b2⟩
          go_wp2
          go_ret
          exact ⟨rfl, b2⟩
      · have ha0 : 97 ≤ y := by omega
        have ha1 : y ≤ 122 := by omega
        clear ha
        rw [inB_yes ha0 ha1]
        go_enter Tryz.func107, Tryz.ntmps107
        go_wp2_with fail
        go_at_call 57
        refine (hin _).mono ?_
        rintro e w1 ⟨rfl, rfl⟩
        go_wp2_with fail
        go_at_call 71
        refine (hu _).mono ?_
        rintro e w2 ⟨rfl, b2⟩
        clear hin hu
        go_wp2
        clear hat0 hbd0 ha0 ha1
        go_loop [3] (fun i => ∃ k : Nat, k ≤ s.size ∧ i = .int .i64 k ∧ ((bs s).take k).any badB = false) (fun i => s.size - (intOf i).toNat)
        case atStart => exact ⟨0, Nat.zero_le _, rfl, by simp⟩
        case round =>
          obtain ⟨k, hks, rfl, hno⟩ := hrel
          have HN : Hid (((bs s).take k).any badB = false) := hno
          clear hno
          by_cases hlt : k < s.size
          · have hat := bs_at s k hlt
            have hbk := bs_bound s k
            have HA : Hid (((bs s).take (k + 1)).any badB = (((bs s).take k).any badB || badB ((bs s).getD k 0))) := any_succ (by omega)
            have HO : Hid (badB ((bs s).getD k 0) = true → (bs s).any badB = true) := any_of (by omega)
            obtain ⟨x, hx⟩ : ∃ x, x = (bs s).getD k 0 := ⟨_, rfl⟩
            rw [← hx] at hat hbk HA HO
            clear hx
            have hbl := fun w => sblank_any x w
            rcases hb : isBlank x with _ | _
            · rw [hb] at hbl
              rcases (show x = 47 ∨ x = 62 ∨ x = 0 ∨ (65 ≤ x ∧ x ≤ 90) ∨ (x ≠ 47 ∧ x ≠ 62 ∧ x ≠ 0 ∧ (x < 65 ∨ 90 < x)) by omega) with h | h | h | h | h
              · subst h
                go_wp2_with fail
                go_at_call 151
                refine (hbl _).mono ?_
                rintro e w3 ⟨rfl, rfl⟩
                go_wp2
                go_ret
                exact ⟨ret_bool (by rw [HO.out (by decide)]; rfl), b2⟩
              · subst h
                go_wp2_with fail
                go_at_call 151
                refine (hbl _).mono ?_
                rintro e w3 ⟨rfl, rfl⟩
                go_wp2
                go_ret
                exact ⟨ret_bool (by rw [HO.out (by decide)]; rfl), b2⟩
              · subst h
                go_wp2_with fail
                go_at_call 151
                refine (hbl _).mono ?_
                rintro e w3 ⟨rfl, rfl⟩
                go_wp2
                go_ret
                exact ⟨ret_bool (by rw [HO.out (by decide)]; rfl), b2⟩
              · have hbad : Hid (badB x = true) := by show badB x = true; unfold badB; rw [inB_yes h.1 h.2]; simp
                obtain ⟨h5, h6⟩ := h
                have n0 : (x == 47) = false := by simp; omega
                have n1 : (x == 62) = false := by simp; omega
                have n2 : (x == 0) = false := by simp; omega
                clear hb
                go_wp2_with fail
                go_at_call 151
                refine (hbl _).mono ?_
                rintro e w3 ⟨rfl, rfl⟩
                go_wp2
                go_ret
                exact ⟨ret_bool (by rw [HO.out hbad.out]; rfl), b2⟩
              · obtain ⟨m0, m1, m2, h5⟩ := h
                have hbad : Hid (badB x = false) := by show badB x = false; unfold badB; rw [hb, inB_no h5]; simp [isBar, m0, m1, m2]
                have n0 : (x == 47) = false := by simp; omega
                have n1 : (x == 62) = false := by simp; omega
                have n2 : (x == 0) = false := by simp; omega
                clear hb m0 m1 m2
                rcases h5 with h5 | h5
                · go_wp2_with fail
                  go_at_call 151
                  refine (hbl _).mono ?_
                  rintro e w3 ⟨rfl, rfl⟩
                  go_wp2
                  go_round
                  case rel => exact ⟨k + 1, by omega, by go_num, by rw [HA.out, HN.out, hbad.out]; rfl⟩
                  case measure => simp [intOf]; omega
                · go_wp2_with fail
                  go_at_call 151
                  refine (hbl _).mono ?_
                  rintro e w3 ⟨rfl, rfl⟩
                  go_wp2
                  go_round
                  case rel => exact ⟨k + 1, by omega, by go_num, by rw [HA.out, HN.out, hbad.out]; rfl⟩
                  case measure => simp [intOf]; omega
            · rw [hb] at hbl
              have hbad : Hid (badB x = true) := by show badB x = true; unfold badB; rw [hb]; rfl
              clear hb
              go_wp2_with fail
              go_at_call 151
              refine (hbl _).mono ?_
              rintro e w3 ⟨rfl, rfl⟩
              go_wp2
              go_ret
              exact ⟨ret_bool (by rw [HO.out hbad.out]; rfl), b2⟩
          · have hkk : k = s.size := by omega
            subst hkk
            have hf : (bs s).any badB = false := by have := HN.out; rw [← hl, List.take_length] at this; exact this
            go_wp2
            go_ret
            exact ⟨ret_bool (by first | rfl | (rw [hf]; rfl)), b2⟩
end Go.Proofs.YtogdbjafibejdaaGreat

/- Attributes as pairs of strings, and contracts of the specification's functions on them. -/
namespace Go.Proofs.YtogdbjafibejdaaGreat
open Go.RowKit
set_option maxRecDepth 100000
set_option linter.unusedVariables false

/-- The value of the first of that name, and true; nothing and false when there is none. -/
def attrOf : List (ByteArray × ByteArray) → ByteArray → ByteArray × Bool
  | [], _ => (⟨#[]⟩, false)
  | p :: ps, nm => if p.1 = nm then (p.2, true) else attrOf ps nm
def attrOk (p : ByteArray × ByteArray) : Bool := inB p.1.size 1 60 && decide (p.2.size ≤ 3000) && utfOk (bs p.1) && utfOk (bs p.2)
/-- The first i are right, and no two of them have one name. -/
def attrsTo (rs : List (ByteArray × ByteArray)) : Bool := rs.all attrOk && decide (rs.Pairwise fun p q => p.1 ≠ q.1)
def attrsOk (rs : List (ByteArray × ByteArray)) : Bool := decide (rs.length ≤ 20) && attrsTo rs
def attrAdd (rs : List (ByteArray × ByteArray)) (a : ByteArray × ByteArray) : List (ByteArray × ByteArray) := if (attrOf rs a.1).2 || decide (20 ≤ rs.length) || !attrOk a then rs else rs ++ [a]
def attrsSame (a b : List (ByteArray × ByteArray)) : Bool := decide (a.length = b.length) && a.all fun p => decide (attrOf b p.1 = (p.2, true))

theorem attrOf_drop {rs : List (ByteArray × ByteArray)} {nm : ByteArray} {k : Nat} (h : k < rs.length) : attrOf (rs.drop k) nm = if rs[k].1 = nm then (rs[k].2, true) else attrOf (rs.drop (k + 1)) nm := by
  rw [List.drop_eq_getElem_cons h]; rfl

set_option maxHeartbeats 1000000 in
set_option maxRecDepth 100000 in
theorem sattrOf_any {v : Value} {rs : List (ByteArray × ByteArray)} {w : World} (h : Sv 2 w v (pairCells rs)) (nm : ByteArray) (hn : rs.length ≤ 1099511627776) :
    Calls Tryz.prog 211 #[v, .string nm] w fun e w' => e = .returned (.tuple #[.string (attrOf rs nm).1, .bool (attrOf rs nm).2]) ∧ w' = w := by
  obtain ⟨a, ca, rfl, _, _, hca⟩ := h.pair
  clear h
  go_enter Tryz.func211, Tryz.ntmps211
  go_wp2
  go_loop [6] (fun i => ∃ k : Nat, k ≤ rs.length ∧ i = .int .i64 k ∧ attrOf (rs.drop k) nm = attrOf rs nm) (fun i => rs.length - (intOf i).toNat)
  case atStart => exact ⟨0, Nat.zero_le _, rfl, rfl⟩
  case round =>
    obtain ⟨k, hk, rfl, he⟩ := hrel
    by_cases hlt : k < rs.length
    · obtain ⟨b1, o1, rfl, l1, c1, c2⟩ := hca k hlt
      rw [attrOf_drop hlt] at he
      obtain ⟨x, hx⟩ : ∃ x, x = rs[k] := ⟨_, rfl⟩
      rw [← hx] at c1 c2 he
      have HE := (show Hid _ from he)
      clear he hx hca
      obtain ⟨xn, xv⟩ := x
      simp only at c1 c2 HE
      by_cases hm : xn = nm
      · have HE2 : Hid (attrOf rs nm = (xv, true)) := by have := HE.out; rw [if_pos hm] at this; exact this.symm
        subst hm
        clear HE
        go_wp2
        go_ret2
        exact ⟨by rw [HE2.out]; rfl, rfl⟩
      · have HE2 := HE.out
        rw [if_neg hm] at HE2
        have HE3 := (show Hid _ from HE2)
        have hd := toList_ne hm
        clear HE HE2
        go_wp2
        go_round
        case rel => exact ⟨k + 1, by omega, by go_num, HE3.out⟩
        case measure => simp [intOf]; omega
    · have hke : k = rs.length := by omega
      rw [hke, List.drop_length] at he
      have HE := (show Hid _ from he)
      clear he hca
      go_wp2
      go_ret2
      exact ⟨by rw [← HE.out]; rfl, rfl⟩

set_option maxHeartbeats 1000000 in
set_option maxRecDepth 100000 in
theorem l4Attr_any (p : ByteArray × ByteArray) (w : World) (h1 : p.1.size ≤ 1099511627776) (h2 : p.2.size ≤ 1099511627776) :
    Calls Tryz.prog 152 #[.agg #[.string p.1, .string p.2]] w fun e w' => e = .returned (.bool (attrOk p)) ∧ Below w.heap.size w w' := by
  obtain ⟨n, v⟩ := p
  simp only at h1 h2 ⊢
  have c1 := fun w => l1In_any n.size 1 60 w
  have c2 := fun w => l1Ok_any n w h1
  have c3 := fun w => l1Ok_any v w h2
  have b1 : Below w.heap.size w (w.alloc (.cells #[.string n, .string v] 115)) := (Below.refl _ _).alloc (Nat.le_refl _) _
  obtain ⟨q1, e1⟩ : ∃ q, q = inB n.size 1 60 := ⟨_, rfl⟩
  obtain ⟨q2, e2⟩ : ∃ q, q = utfOk (bs n) := ⟨_, rfl⟩
  obtain ⟨q3, e3⟩ : ∃ q, q = utfOk (bs v) := ⟨_, rfl⟩
  have hv : attrOk (n, v) = (q1 && decide (v.size ≤ 3000) && q2 && q3) := by rw [e1, e2, e3]; rfl
  rw [hv]
  rw [← e1] at c1
  rw [← e2] at c2
  rw [← e3] at c3
  have C1 := (show Hid _ from c1)
  have C2 := (show Hid _ from c2)
  have C3 := (show Hid _ from c3)
  clear c1 c2 c3 e1 e2 e3 hv
  cases q1
  · go_enter Tryz.func152, Tryz.ntmps152
    go_wp2_with fail
    go_at_call 57
    refine (C1.out _).mono ?_
    rintro e w1 ⟨rfl, rfl⟩
    go_wp2
    go_ret
    exact ⟨ret_bool (by simp), b1⟩
  · by_cases hv : v.size ≤ 3000
    · cases q2
      · go_enter Tryz.func152, Tryz.ntmps152
        go_wp2_with fail
        go_at_call 57
        refine (C1.out _).mono ?_
        rintro e w1 ⟨rfl, rfl⟩
        go_wp2_with fail
        go_at_call 71
        refine (C2.out _).mono ?_
        rintro e w2 ⟨rfl, b2⟩
        replace b2 := b1.trans (b2.mono b1.size)
        go_wp2
        go_ret
        exact ⟨ret_bool (by simp), b2⟩
      · go_enter Tryz.func152, Tryz.ntmps152
        go_wp2_with fail
        go_at_call 57
        refine (C1.out _).mono ?_
        rintro e w1 ⟨rfl, rfl⟩
        go_wp2_with fail
        go_at_call 71
        refine (C2.out _).mono ?_
        rintro e w2 ⟨rfl, b2⟩
        have d1 : w2.cell? ⟨w.heap.size, 1, none⟩ = some (.string v) := by
          rw [b2.cell (p := ⟨w.heap.size, 1, none⟩) (by simp)]
          simp
        replace b2 := b1.trans (b2.mono b1.size)
        go_wp2_with fail
        go_at_call 71
        refine (C3.out _).mono ?_
        rintro e w3 ⟨rfl, b3⟩
        replace b3 := b2.trans (b3.mono b2.size)
        go_wp2
        go_ret
        exact ⟨ret_bool (by simp [hv]), b3⟩
    · go_enter Tryz.func152, Tryz.ntmps152
      go_wp2_with fail
      go_at_call 57
      refine (C1.out _).mono ?_
      rintro e w1 ⟨rfl, rfl⟩
      go_wp2
      go_ret
      exact ⟨ret_bool (by simp <;> omega), b1⟩
end Go.Proofs.YtogdbjafibejdaaGreat

/- Contracts of the specification's AttrsOk and AttrsSame. -/
namespace Go.Proofs.YtogdbjafibejdaaGreat
open Go.RowKit
set_option maxRecDepth 100000
set_option linter.unusedVariables false

theorem attrsTo_iff (rs : List (ByteArray × ByteArray)) : attrsTo rs = true ↔ (∀ i (hi : i < rs.length), attrOk rs[i] = true) ∧ ∀ i j (hi : i < rs.length) (hj : j < rs.length), i < j → rs[i].1 ≠ rs[j].1 := by
  unfold attrsTo
  rw [Bool.and_eq_true, List.all_eq_true, decide_eq_true_eq, List.pairwise_iff_getElem]
  constructor
  · rintro ⟨h1, h2⟩
    exact ⟨fun i hi => h1 _ (List.getElem_mem hi), h2⟩
  · rintro ⟨h1, h2⟩
    refine ⟨fun p hp => ?_, h2⟩
    obtain ⟨i, hi, rfl⟩ := List.getElem_of_mem hp
    exact h1 i hi
theorem attrsTo_succ {rs : List (ByteArray × ByteArray)} {k : Nat} (hk : k < rs.length) (h : attrsTo (rs.take k) = true) (ha : attrOk rs[k] = true) (hd : ∀ j (hj : j < k), (rs[j]'(by omega)).1 ≠ rs[k].1) : attrsTo (rs.take (k + 1)) = true := by
  rw [attrsTo_iff] at h ⊢
  have hl : (rs.take (k + 1)).length = k + 1 := by simp; omega
  have hl0 : (rs.take k).length = k := by simp; omega
  refine ⟨fun i hi => ?_, fun i j hi hj hij => ?_⟩
  · rw [List.getElem_take]
    by_cases hik : i < k
    · have := h.1 i (by omega); rw [List.getElem_take] at this; exact this
    · have e : i = k := by omega
      subst e; exact ha
  · rw [List.getElem_take, List.getElem_take]
    by_cases hjk : j < k
    · have := h.2 i j (by omega) (by omega) hij
      rw [List.getElem_take, List.getElem_take] at this; exact this
    · have e : j = k := by omega
      subst e; exact hd i hij
theorem attrsTo_bad {rs : List (ByteArray × ByteArray)} {k : Nat} (hk : k < rs.length) (h : attrOk rs[k] = false) : attrsTo rs = false := by
  rcases he : attrsTo rs with _ | _
  · rfl
  · rw [((attrsTo_iff rs).mp he).1 k hk] at h; cases h
theorem attrsTo_twice {rs : List (ByteArray × ByteArray)} {j k : Nat} (hj : j < rs.length) (hk : k < rs.length) (hjk : j < k) (h : rs[j].1 = rs[k].1) : attrsTo rs = false := by
  rcases he : attrsTo rs with _ | _
  · rfl
  · exact absurd h (((attrsTo_iff rs).mp he).2 j k hj hk hjk)

set_option maxHeartbeats 2000000 in
set_option maxRecDepth 100000 in
theorem sattrsOk_any {v : Value} {rs : List (ByteArray × ByteArray)} {w : World} (h : Sv 2 w v (pairCells rs)) (hn : rs.length ≤ 1099511627776) (hs : ∀ p ∈ rs, p.1.size ≤ 1099511627776 ∧ p.2.size ≤ 1099511627776) :
    Calls Tryz.prog 108 #[v] w fun e w' => e = .returned (.bool (attrsOk rs)) ∧ Below w.heap.size w w' := by
  obtain ⟨a, ca, rfl, _, _, hca⟩ := h.pair
  have HS := (show Hid (∀ p ∈ rs, p.1.size ≤ 1099511627776 ∧ p.2.size ≤ 1099511627776) from hs)
  clear h hs
  by_cases h20 : 20 < rs.length
  · have hr : attrsOk rs = false := by unfold attrsOk; rw [decide_eq_false (by omega)]; rfl
    rw [hr]
    go_enter Tryz.func108, Tryz.ntmps108
    go_wp2
    go_ret
    exact ⟨rfl, Below.refl _ _⟩
  · have hr : attrsOk rs = attrsTo rs := by unfold attrsOk; rw [decide_eq_true (by omega)]; rfl
    rw [hr]
    have h21 : rs.length ≤ 20 := by omega
    clear hr h20
    go_enter Tryz.func108, Tryz.ntmps108
    go_wp2
    go_loopw [3] (fun i wr => ∃ k : Nat, k ≤ rs.length ∧ i = .int .i64 k ∧ attrsTo (rs.take k) = true ∧ Below w.heap.size w wr) (fun i _ => rs.length - (intOf i).toNat)
    case atStart => exact ⟨0, Nat.zero_le _, rfl, rfl, Below.refl _ _⟩
    case round =>
      obtain ⟨k, hk, rfl, hto, bel⟩ := hrel
      have HTO := (show Hid (attrsTo (rs.take k) = true) from hto)
      clear hto
      by_cases hlt : k < rs.length
      · obtain ⟨b1, o1, rfl, l1, c1, c2⟩ := hca k hlt
        have d1 : wr.cell? ⟨b1, o1 + k * 2, none⟩ = some (.string rs[k].1) := (bel.cell (p := ⟨b1, o1 + k * 2, none⟩) l1).trans c1
        have d2 : wr.cell? ⟨b1, o1 + k * 2 + 1, none⟩ = some (.string rs[k].2) := (bel.cell (p := ⟨b1, o1 + k * 2 + 1, none⟩) l1).trans c2
        have hsz := HS.out rs[k] (List.getElem_mem hlt)
        have cc := fun w => l4Attr_any rs[k] w hsz.1 hsz.2
        have HBAD : Hid (attrOk rs[k] = false → attrsTo rs = false) := attrsTo_bad hlt
        have HSUC : Hid (attrOk rs[k] = true → (∀ j (hj : j < k), (rs[j]'(by omega)).1 ≠ rs[k].1) → attrsTo (rs.take (k + 1)) = true) := attrsTo_succ hlt HTO.out
        have HTW : Hid (∀ j (hj : j < rs.length), j < k → rs[j].1 = rs[k].1 → attrsTo rs = false) := fun j hj hjk e => attrsTo_twice hj hlt hjk e
        obtain ⟨x, hx⟩ : ∃ x, x = rs[k] := ⟨_, rfl⟩
        rw [← hx] at c1 d1 d2 cc HBAD HSUC HTW
        clear hx c2 hsz
        obtain ⟨p, hp⟩ : ∃ p, p = attrOk x := ⟨_, rfl⟩
        rw [← hp] at cc HBAD HSUC
        have CC := (show Hid _ from cc)
        clear cc hp
        cases p
        · go_wp2_with fail
          go_at_call 152
          refine (CC.out _).mono ?_
          rintro e w2 ⟨rfl, b2⟩
          replace b2 := bel.trans (b2.mono bel.size)
          clear d1 d2
          go_wp2
          go_ret
          exact ⟨ret_bool (by rw [HBAD.out (by simp)]), b2⟩
        · go_wp2_with fail
          go_at_call 152
          refine (CC.out _).mono ?_
          rintro e w2 ⟨rfl, b2⟩
          replace b2 := bel.trans (b2.mono bel.size)
          clear d1 d2 HBAD CC
          go_wp2
          go_loopw [4] (fun i wr => ∃ j : Nat, j ≤ k ∧ i = .int .i64 j ∧ (∀ t (ht : t < rs.length), t < j → rs[t].1 ≠ x.1) ∧ Below w.heap.size w wr) (fun i _ => k - (intOf i).toNat)
          case atStart => exact ⟨0, Nat.zero_le _, rfl, fun t ht h => absurd h (by omega), b2⟩
          case round =>
            clear b2
            obtain ⟨j, hj, rfl, hall, bel2⟩ := hrel
            have HALL := (show Hid (∀ t (ht : t < rs.length), t < j → rs[t].1 ≠ x.1) from hall)
            clear hall
            by_cases hjk : j < k
            · have hjl : j < rs.length := by omega
              obtain ⟨b3, o3, e3, l3, c3, _⟩ := hca j hjl
              cases e3
              have d3 : wr.cell? ⟨b1, o1 + j * 2, none⟩ = some (.string rs[j].1) := (bel2.cell (p := ⟨b1, o1 + j * 2, none⟩) l1).trans c3
              have dk : wr.cell? ⟨b1, o1 + k * 2, none⟩ = some (.string x.1) := (bel2.cell (p := ⟨b1, o1 + k * 2, none⟩) l1).trans c1
              have HTW2 := (show Hid (rs[j].1 = x.1 → attrsTo rs = false) from HTW.out j hjl hjk)
              have HNX : Hid (rs[j].1 ≠ x.1 → ∀ t (ht : t < rs.length), t < j + 1 → rs[t].1 ≠ x.1) := fun hne t ht htj => by
                by_cases e : t = j
                · subst e; exact hne
                · exact HALL.out t ht (by omega)
              have hjl2 : (j : Int) < (rs.length : Int) := by omega
              have hkl2 : (k : Int) < (rs.length : Int) := by omega
              obtain ⟨y, hy⟩ : ∃ y, y = rs[j] := ⟨_, rfl⟩
              rw [← hy] at d3 HTW2 HNX
              clear hy c3 hca c1 HALL
              by_cases hyx : y.1 = x.1
              · have HF := (show Hid _ from HTW2.out hyx)
                rw [hyx] at d3
                clear HTW HTW2 HNX HSUC
                go_wp2
                go_quiet (fail)
                go_wp2
                go_ret
                exact ⟨ret_bool (by rw [HF.out]), bel2.trans (below_drewN _)⟩
              · have HG := (show Hid _ from HNX.out hyx)
                have hd := toList_ne hyx
                clear HTW HTW2 HNX HSUC
                go_wp2
                go_quiet (fail)
                go_wp2
                go_roundw
                case rel => exact ⟨j + 1, by omega, by go_num, HG.out, bel2.trans (below_drewN _)⟩
                case measure => simp [intOf]; omega
            · have hjk2 : j = k := by omega
              have HG : Hid (attrsTo (rs.take (k + 1)) = true) := HSUC.out (by simp) (fun t ht => HALL.out t (by omega) (by omega))
              clear HTW HSUC HALL hca c1
              go_wp2
              go_roundw
              case rel => exact ⟨k + 1, by omega, by go_num, HG.out, bel2⟩
              case measure => simp [intOf]; omega
      · have hke : k = rs.length := by omega
        have hto := HTO.out
        rw [hke, List.take_length] at hto
        have HT2 := (show Hid _ from hto)
        clear hto
        go_wp2
        go_ret
        exact ⟨ret_bool (by rw [HT2.out]), bel⟩
end Go.Proofs.YtogdbjafibejdaaGreat

/- The law on append, said of slices of any values, several cells an element, that the call itself made. No condition. -/
namespace Go.Proofs.YtogdbjafibejdaaGreat
open Go.RowKit
set_option maxRecDepth 100000
set_option linter.unusedVariables false

/-- 'v = append(v, u...)', v the call's own, u whatever slice, m its length. -/
theorem wpList_appV {P : Program} (w : World) {ops : Array Oper} {rest : List Oper} {o : Oper} {a : Act} {Q : Exit → Act → World → Prop} (hgd : o.guard = none)
    (s x : Operand) (t : TypeId) (ho : o.op = Op.call { callee := Callee.builtin Builtin.append, args := #[s, x], argTypes := #[t, t] }) (B : Nat) (e : TypeId) (i : TypeInfo)
    (z : Value) (size bytes : Nat) (ht : P.underlying t = some (TypeDesc.slice e)) (hi : P.info? e = some i) (hz : i.zero = some z) (hsize : i.size = size) (hby : i.bytes = bytes)
    (hzs : z.cells.size = size) (hpos : 0 < size) (v u : Value) (n m : Nat) (xs ys : List Value) (hs : a.eval s = v) (hx : a.eval x = u) (hown : w.ownsRow B e size v n xs) (hu : Sv size w u ys) (hm : ys.length = m * size)
    (h1 : ∀ y ∈ ys, y.oneCell' = true) (hb : (n + m) * bytes ≤ 140737488355328) (h63 : n + m ≤ maxLen) (hbase : B ≤ w.heap.size)
    (h : ∀ (v' : Value) (w' : World), w'.ownsRow B e size v' (n + m) (xs ++ ys) → w.grownBy w' v.ownBlock → wpList P ops Q rest (a.put o.dst v') w') :
    wpList P ops Q (o :: rest) a w := by
  obtain ⟨ao, len, cap, rfl, hl, hlc, hcm, hnone, hc⟩ := hu
  have hlm : len = m := Nat.eq_of_mul_eq_mul_right hpos (hl.symm.trans hm)
  subst hlm
  cases ao with
  | none =>
    have hc0 := hnone rfl
    subst hc0
    have hl0 : len = 0 := by omega
    subst hl0
    have hy : ys = [] := List.length_eq_zero_iff.mp (by omega)
    subst hy
    refine wpList_append_own_none hgd s x t ho B e i size ht hi v n _ hs hown hx (h v w ?_ (World.grownBy.refl _ _))
    rw [List.append_nil]; exact hown
  | some ad =>
    refine wpList_append_own w hgd s x t ho B e i z size bytes ht hi hz hsize hby hzs hpos v n _ hs hown ad len cap ys hx hl ?_ h1 h63 hb hbase ?_
    · intro j y hy
      have hj : j < ys.length := by
        by_cases hj : j < ys.length
        · exact hj
        · rw [List.getElem?_eq_none (Nat.le_of_not_lt hj)] at hy; cases hy
      obtain ⟨b, off, e, c⟩ := hc j hj
      cases e
      have e2 : ys.getD j undef = y := by rw [List.getD_eq_getElem?_getD, hy]; rfl
      rw [e2] at c
      rw [← c]
      by_cases h0 : j = 0
      · subst h0; simp [Addr.add]
      · simp [Addr.add, h0]
    · intro v' w' ho' hg' _
      exact h v' w' ho' hg'
theorem empty_row (w : World) (B : Nat) (e : TypeId) (size : Nat) (hB : B ≤ w.heap.size) : (w.alloc (.cells #[] e)).ownsRow B e size (.slice (some ⟨w.heap.size, 0, none⟩) 0 0) 0 [] := by
  refine ⟨by simp, .inr ⟨w.heap.size, 0, #[], rfl, hB, heap_alloc_new _ _, Nat.le_refl _, Nat.zero_le _, by simp, by simp⟩⟩
end Go.Proofs.YtogdbjafibejdaaGreat
