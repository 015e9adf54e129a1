import Derived.Test.YtkljadaggnbjkaaGreatStr
import Derived.Test.YtkljadaggnbjkaaGreatSKinds
import Derived.Deep.RegionHeld
import Derived.Test.YtkljadaggnbjkaaGreatB11
/- Contracts of NameOk, the program's and the specification's, at every string of at most 2^40 bytes. -/
namespace Go.Proofs.YtkljadaggnbjkaaGreat
open Go.RowKit
set_option maxRecDepth 100000
set_option linter.unusedVariables false

def badB (x : Int) : Bool := isBlank x || inB x 65 90 || isBar x
def nameOk (xs : List Int) : Bool := inB xs.length 1 60 && utfOk xs && inB (xs.getD 0 0) 97 122 && !(xs.any badB)

theorem wrap_byte {x : Int} (h0 : 0 ≤ x) (h1 : x ≤ 255) : IntKind.i64.wrap x = x := by
  have h : x % 2 ^ 64 = x := by omega
  simp only [IntKind.wrap, IntKind.bits, h]
  rw [if_neg]
  simp; omega

/-- The three kinds that bar a byte of a name lie in the table in block g. -/
def KC (w : World) (g : Nat) : Prop := w.cell? ⟨g, 0, none⟩ = some (.func (.func 112) #[] #[]) ∧ w.cell? ⟨g, 1, none⟩ = some (.func (.func 113) #[] #[]) ∧ w.cell? ⟨g, 6, none⟩ = some (.func (.func 118) #[] #[])
theorem KC.lt {w : World} {g : Nat} (h : KC w g) : g < w.heap.size := by
  by_cases hl : g < w.heap.size
  · exact hl
  · have := h.1
    simp [World.cell?, Array.getElem?_eq_none (Nat.le_of_not_lt hl)] at this
theorem KC.below {w w' : World} {g : Nat} (h : KC w g) (hb : Below w.heap.size w w') : KC w' g :=
  ⟨(hb.cell (p := ⟨g, 0, none⟩) h.lt).trans h.1, (hb.cell (p := ⟨g, 1, none⟩) h.lt).trans h.2.1, (hb.cell (p := ⟨g, 6, none⟩) h.lt).trans h.2.2⟩
theorem any_succ {xs : List Int} {k : Nat} (h : k < xs.length) : (xs.take (k + 1)).any badB = ((xs.take k).any badB || badB (xs.getD k 0)) := by
  have hg : xs.getD k 0 = xs[k] := by simp [List.getD_eq_getElem?_getD, h]
  rw [List.take_succ_eq_append_getElem h, hg, List.any_append]
  simp only [List.any_cons, List.any_nil, Bool.or_false]
theorem any_of {xs : List Int} {k : Nat} (h : k < xs.length) (hb : badB (xs.getD k 0) = true) : xs.any badB = true := by
  have hg : xs.getD k 0 = xs[k] := by simp [List.getD_eq_getElem?_getD, h]
  rw [hg] at hb
  exact List.any_eq_true.mpr ⟨_, List.getElem_mem h, hb⟩

set_option maxHeartbeats 2000000 in
set_option maxRecDepth 100000 in
theorem inameOk_any (s : ByteArray) (w : World) (hs : s.size ≤ 1099511627776) :
    Calls Tryz.prog 89 #[.string s] w fun e w' => e = .returned (.bool (nameOk (bs s))) ∧ Below w.heap.size w w' := by
  have hl := bs_len s
  by_cases h1 : s.size < 1 ∨ 60 < s.size
  · have hn : nameOk (bs s) = false := by unfold nameOk; rw [hl, inB_no (by omega)]; rfl
    rw [hn]
    rcases h1 with h1 | h1
    · go_enter Tryz.func89, Tryz.ntmps89
      go_wp2
      go_ret
      exact ⟨rfl, Below.refl _ _⟩
    · go_enter Tryz.func89, Tryz.ntmps89
      go_wp2
      go_ret
      exact ⟨rfl, Below.refl _ _⟩
  · have h2 : 1 ≤ s.size := by omega
    have h3 : s.size ≤ 60 := by omega
    have h4 : 0 < s.size := by omega
    clear h1
    obtain ⟨cap, w1, hc, hk, hcap, hm, hb⟩ := conv_str s w (by unfold maxLen; omega)
    have hsl := hk.sl (n := s.size) (cap := cap) (by omega) (by omega) hm
    have hu := iutfOk_any hsl (bs_byte s) (by omega)
    have e1 : nameOk (bs s) = (utfOk (bs s) && inB ((bs s).getD 0 0) 97 122 && !((bs s).any badB)) := by unfold nameOk; rw [hl, inB_yes (by omega) (by omega)]; rfl
    obtain ⟨u, eu⟩ : ∃ u, u = utfOk (bs s) := ⟨_, rfl⟩
    rw [e1]
    rw [← eu] at hu ⊢
    clear e1 eu hk
    cases u
    · go_enter Tryz.func89, Tryz.ntmps89
      go_wp2_with fail
      go_at_call 99
      refine hu.mono ?_
      rintro e w2 ⟨rfl, b2⟩
      go_wp2
      go_ret
      exact ⟨rfl, hb.trans (b2.mono hb.size)⟩
    · have hat0 := bs_at s 0 (by omega)
      have hbd0 := bs_bound s 0
      obtain ⟨y, hy⟩ : ∃ y, y = (bs s).getD 0 0 := ⟨_, rfl⟩
      rw [← hy] at hat0 hbd0 ⊢
      clear hy
      have hk3 := fun w => k3_any y w
      obtain ⟨a, ha⟩ : ∃ a, a = inB y 97 122 := ⟨_, rfl⟩
      rw [← ha] at hk3 ⊢
      clear ha
      go_enter Tryz.func89, Tryz.ntmps89
      go_wp2_with fail
      go_at_call 99
      refine hu.mono ?_
      rintro e w2 ⟨rfl, b2⟩
      replace b2 := hb.trans (b2.mono hb.size)
      clear hu hc hsl hb
      go_wp2_with fail
      go_at_call 100
      refine (pointKinds_any _).mono ?_
      rintro e w3 ⟨rfl, b3⟩
      replace b3 := b2.trans (b3.mono b2.size)
      clear b2
      go_wp2
      go_quiet ((go_at_call 114; refine Calls.quiet_of_same (hk3 _)))
      cases a
      · go_wp2
        go_ret
        exact ⟨rfl, (b3.alloc b3.size _).trans (below_drewN _)⟩
      · have kc : KC ((w3.alloc (.cells #[.func (.func 112) #[] #[], .func (.func 113) #[] #[], .func (.func 114) #[] #[], .func (.func 115) #[] #[], .func (.func 116) #[] #[], .func (.func 117) #[] #[], .func (.func 118) #[] #[]] 113)).drewN nq) w3.heap.size := by
          refine ⟨?_, ?_, ?_⟩
          · simp
          · simp
          · simp
        have bel := (b3.alloc b3.size (.cells #[.func (.func 112) #[] #[], .func (.func 113) #[] #[], .func (.func 114) #[] #[], .func (.func 115) #[] #[], .func (.func 116) #[] #[], .func (.func 117) #[] #[], .func (.func 118) #[] #[]] 113)).trans (below_drewN nq)
        clear hat0 hbd0 hk3 b3
        simp only [Bool.not_true]
        go_wp2
        go_loopw [29] (fun i wr => ∃ k : Nat, k ≤ s.size ∧ i = .int .i64 k ∧ ((bs s).take k).any badB = false ∧ KC wr w3.heap.size ∧ Below w.heap.size w wr) (fun i _ => s.size - (intOf i).toNat)
        case atStart => exact ⟨0, Nat.zero_le _, rfl, by simp, kc, bel⟩
        case round =>
          clear kc bel
          obtain ⟨k, hks, rfl, hno, kc, bel⟩ := hrel
          have HN : Hid (((bs s).take k).any badB = false) := hno
          clear hno
          by_cases hlt : k < s.size
          · have hat := bs_at s k hlt
            have hbk := bs_bound s k
            have HA : Hid (((bs s).take (k + 1)).any badB = (((bs s).take k).any badB || badB ((bs s).getD k 0))) := any_succ (by omega)
            have HO : Hid (badB ((bs s).getD k 0) = true → (bs s).any badB = true) := any_of (by omega)
            obtain ⟨x, hx⟩ : ∃ x, x = (bs s).getD k 0 := ⟨_, rfl⟩
            rw [← hx] at hat hbk HA HO
            have hwx : IntKind.i64.wrap x = x := wrap_byte hbk.1 hbk.2
            clear hx
            have hany : ∀ (b : Nat) (w : World), w.cell? ⟨b, 0, none⟩ = some (.func (.func 112) #[] #[]) → w.cell? ⟨b, 1, none⟩ = some (.func (.func 113) #[] #[]) → w.cell? ⟨b, 2, none⟩ = some (.func (.func 118) #[] #[]) →
                Calls Tryz.prog 101 #[.int .i64 x, .slice (some ⟨b, 0, none⟩) 3 3] w fun e w' => e = .returned (.bool (badB x)) ∧ w' = w := fun b w h0 h1 h2 => any3_any x h0 h1 h2
            obtain ⟨p, hp⟩ : ∃ p, p = badB x := ⟨_, rfl⟩
            rw [← hp] at hany HA HO
            have HANY := (show Hid _ from hany)
            clear hp hany
            obtain ⟨c0, c1, c6⟩ := kc
            have KCC : Hid (KC wr w3.heap.size) := ⟨c0, c1, c6⟩
            go_wp2
            go_region_held (fun w' => w'.cell? ⟨w3.heap.size, 0, none⟩ = some (.func (.func 112) #[] #[]) ∧ w'.cell? ⟨w3.heap.size, 1, none⟩ = some (.func (.func 113) #[] #[]) ∧ w'.cell? ⟨w3.heap.size, 6, none⟩ = some (.func (.func 118) #[] #[])) (go_keep)
              ((go_at_call 101; refine (HANY.out _ _ (by simp) (by simp) (by simp)).mono ?_; rintro e w4 ⟨rfl, rfl⟩))
            all_goals
              have hbs := bel.size
              have hba := (bel.alloc hbs (.cells #[.func (.func 112) #[] #[], .func (.func 113) #[] #[], .func (.func 118) #[] #[]] 112))
              have hkc := KCC.out.below ((Below.refl _ wr).alloc (Nat.le_refl _) (.cells #[.func (.func 112) #[] #[], .func (.func 113) #[] #[], .func (.func 118) #[] #[]] 112))
              replace hba := hba.trans (below_drewN 1)
              replace hkc := hkc.below (below_drewN 1)
              cases p
              · go_wp2
                go_roundw
                case rel => exact ⟨k + 1, by omega, by go_num, by rw [HA.out, HN.out]; rfl, hkc, hba⟩
                case measure => simp [intOf]; omega
              · go_wp2
                go_ret
                exact ⟨ret_bool (by rw [HO.out (by simp)]; rfl), hba⟩
          · have hkk : k = s.size := by omega
            subst hkk
            have hf : (bs s).any badB = false := by have := HN.out; rw [← hl, List.take_length] at this; exact this
            go_wp2
            go_ret
            exact ⟨ret_bool (by rw [hf]; rfl), bel⟩
end Go.Proofs.YtkljadaggnbjkaaGreat

/- Contracts of the specification's NameOk, at every string of at most 2^40 bytes. -/
namespace Go.Proofs.YtkljadaggnbjkaaGreat
open Go.RowKit
set_option maxRecDepth 100000
set_option linter.unusedVariables false

theorem l1Ok_any (s : ByteArray) (w : World) (hs : s.size ≤ 1099511627776) : Calls Tryz.prog 74 #[.string s] w fun e w' => e = .returned (.bool (utfOk (bs s))) ∧ Below w.heap.size w w' := by
  obtain ⟨cap, w1, hc, hk, hcap, hm, hb⟩ := conv_str s w (by unfold maxLen; omega)
  have hl := bs_len s
  have hsl := hk.sl (n := s.size) (cap := cap) (by omega) (by omega) hm
  have hu := sutfOk_any hsl (bs_byte s) (by omega)
  clear hk
  go_enter Tryz.func74, Tryz.ntmps74
  go_wp2_with fail
  go_at_call 94
  refine hu.mono ?_
  rintro e w2 ⟨rfl, b2⟩
  go_wp2
  go_ret
  exact ⟨rfl, hb.trans (b2.mono hb.size)⟩

theorem isBar_iff (x : Int) : isBar x = true ↔ x = 0 ∨ x = 47 ∨ x = 62 := by simp [isBar, or_assoc]

set_option maxHeartbeats 4000000 in
set_option maxRecDepth 100000 in
theorem snameOk_any (s : ByteArray) (w : World) (hs : s.size ≤ 1099511627776) :
    Calls Tryz.prog 75 #[.string s] w fun e w' => e = .returned (.bool (nameOk (bs s))) ∧ Below w.heap.size w w' := by
  have hl := bs_len s
  have hin := fun w => l1In_any s.size 1 60 w
  by_cases h1 : s.size < 1 ∨ 60 < s.size
  · have hn : nameOk (bs s) = false := by unfold nameOk; rw [hl, inB_no (by omega)]; rfl
    rw [hn]
    rw [inB_no (by omega)] at hin
    go_enter Tryz.func75, Tryz.ntmps75
    go_wp2_with fail
    go_at_call 35
    refine (hin _).mono ?_
    rintro e w2 ⟨rfl, rfl⟩
    go_wp2
    go_ret
    exact ⟨rfl, Below.refl _ _⟩
  · have h2 : 1 ≤ s.size := by omega
    have h3 : s.size ≤ 60 := by omega
    have h4 : 0 < s.size := by omega
    clear h1
    rw [inB_yes (by omega) (by omega)] at hin
    have hu := fun w => l1Ok_any s w hs
    have e1 : nameOk (bs s) = (utfOk (bs s) && inB ((bs s).getD 0 0) 97 122 && !((bs s).any badB)) := by unfold nameOk; rw [hl, inB_yes (by omega) (by omega)]; rfl
    obtain ⟨u, eu⟩ : ∃ u, u = utfOk (bs s) := ⟨_, rfl⟩
    rw [e1]
    rw [← eu] at hu ⊢
    clear e1 eu
    cases u
    · go_enter Tryz.func75, Tryz.ntmps75
      go_wp2_with fail
      go_at_call 35
      refine (hin _).mono ?_
      rintro e w1 ⟨rfl, rfl⟩
      go_wp2_with fail
      go_at_call 74
      refine (hu _).mono ?_
      rintro e w2 ⟨rfl, b2⟩
      go_wp2
      go_ret
      exact ⟨rfl, b2⟩
    · have hat0 := bs_at s 0 (by omega)
      have hbd0 := bs_bound s 0
      obtain ⟨y, hy⟩ : ∃ y, y = (bs s).getD 0 0 := ⟨_, rfl⟩
      rw [← hy] at hat0 hbd0 ⊢
      clear hy
      by_cases ha : y < 97 ∨ 122 < y
      · rw [inB_no ha]
        rcases ha with ha | ha
        · go_enter Tryz.func75, Tryz.ntmps75
          go_wp2_with fail
          go_at_call 35
          refine (hin _).mono ?_
          rintro e w1 ⟨rfl, rfl⟩
          go_wp2_with fail
          go_at_call 74
          refine (hu _).mono ?_
          rintro e w2 ⟨rfl, b2⟩
          go_wp2
          go_ret
          exact ⟨rfl, b2⟩
        · go_enter Tryz.func75, Tryz.ntmps75
          go_wp2_with fail
          go_at_call 35
          refine (hin _).mono ?_
          rintro e w1 ⟨rfl, rfl⟩
          go_wp2_with fail
          go_at_call 74
          refine (hu _).mono ?_
          rintro e w2 ⟨rfl, b2⟩
          go_wp2
          go_ret
          exact ⟨rfl, b2⟩
      · have ha0 : 97 ≤ y := by omega
        have ha1 : y ≤ 122 := by omega
        clear ha
        rw [inB_yes ha0 ha1]
        go_enter Tryz.func75, Tryz.ntmps75
        go_wp2_with fail
        go_at_call 35
        refine (hin _).mono ?_
        rintro e w1 ⟨rfl, rfl⟩
        go_wp2_with fail
        go_at_call 74
        refine (hu _).mono ?_
        rintro e w2 ⟨rfl, b2⟩
        clear hin hu
        go_wp2
        clear hat0 hbd0 ha0 ha1
        go_loop [3] (fun i => ∃ k : Nat, k ≤ s.size ∧ i = .int .i64 k ∧ ((bs s).take k).any badB = false) (fun i => s.size - (intOf i).toNat)
        case atStart => exact ⟨0, Nat.zero_le _, rfl, by simp⟩
        case round =>
          obtain ⟨k, hks, rfl, hno⟩ := hrel
          have HN : Hid (((bs s).take k).any badB = false) := hno
          clear hno
          by_cases hlt : k < s.size
          · have hat := bs_at s k hlt
            have hbk := bs_bound s k
            have HA : Hid (((bs s).take (k + 1)).any badB = (((bs s).take k).any badB || badB ((bs s).getD k 0))) := any_succ (by omega)
            have HO : Hid (badB ((bs s).getD k 0) = true → (bs s).any badB = true) := any_of (by omega)
            obtain ⟨x, hx⟩ : ∃ x, x = (bs s).getD k 0 := ⟨_, rfl⟩
            rw [← hx] at hat hbk HA HO
            clear hx
            have hbl := fun w => sblank_any x w
            rcases hb : isBlank x with _ | _
            · rw [hb] at hbl
              rcases (show x = 47 ∨ x = 62 ∨ x = 0 ∨ (65 ≤ x ∧ x ≤ 90) ∨ (x ≠ 47 ∧ x ≠ 62 ∧ x ≠ 0 ∧ (x < 65 ∨ 90 < x)) by omega) with h | h | h | h | h
              · subst h
                go_wp2_with fail
                go_at_call 95
                refine (hbl _).mono ?_
                rintro e w3 ⟨rfl, rfl⟩
                go_wp2
                go_ret
                exact ⟨ret_bool (by rw [HO.out (by decide)]; rfl), b2⟩
              · subst h
                go_wp2_with fail
                go_at_call 95
                refine (hbl _).mono ?_
                rintro e w3 ⟨rfl, rfl⟩
                go_wp2
                go_ret
                exact ⟨ret_bool (by rw [HO.out (by decide)]; rfl), b2⟩
              · subst h
                go_wp2_with fail
                go_at_call 95
                refine (hbl _).mono ?_
                rintro e w3 ⟨rfl, rfl⟩
                go_wp2
                go_ret
                exact ⟨ret_bool (by rw [HO.out (by decide)]; rfl), b2⟩
              · have hbad : Hid (badB x = true) := by show badB x = true; unfold badB; rw [inB_yes h.1 h.2]; simp
                obtain ⟨h5, h6⟩ := h
                have n0 : (x == 47) = false := by simp; omega
                have n1 : (x == 62) = false := by simp; omega
                have n2 : (x == 0) = false := by simp; omega
                clear hb
                go_wp2_with fail
                go_at_call 95
                refine (hbl _).mono ?_
                rintro e w3 ⟨rfl, rfl⟩
                go_wp2
                go_ret
                exact ⟨ret_bool (by rw [HO.out hbad.out]; rfl), b2⟩
              · obtain ⟨m0, m1, m2, h5⟩ := h
                have hbad : Hid (badB x = false) := by show badB x = false; unfold badB; rw [hb, inB_no h5]; simp [isBar, m0, m1, m2]
                have n0 : (x == 47) = false := by simp; omega
                have n1 : (x == 62) = false := by simp; omega
                have n2 : (x == 0) = false := by simp; omega
                clear hb m0 m1 m2
                rcases h5 with h5 | h5
                · go_wp2_with fail
                  go_at_call 95
                  refine (hbl _).mono ?_
                  rintro e w3 ⟨rfl, rfl⟩
                  go_wp2
                  go_round
                  case rel => exact ⟨k + 1, by omega, by go_num, by rw [HA.out, HN.out, hbad.out]; rfl⟩
                  case measure => simp [intOf]; omega
                · go_wp2_with fail
                  go_at_call 95
                  refine (hbl _).mono ?_
                  rintro e w3 ⟨rfl, rfl⟩
                  go_wp2
                  go_round
                  case rel => exact ⟨k + 1, by omega, by go_num, by rw [HA.out, HN.out, hbad.out]; rfl⟩
                  case measure => simp [intOf]; omega
            · rw [hb] at hbl
              have hbad : Hid (badB x = true) := by show badB x = true; unfold badB; rw [hb]; rfl
              clear hb
              go_wp2_with fail
              go_at_call 95
              refine (hbl _).mono ?_
              rintro e w3 ⟨rfl, rfl⟩
              go_wp2
              go_ret
              exact ⟨ret_bool (by rw [HO.out hbad.out]; rfl), b2⟩
          · have hkk : k = s.size := by omega
            subst hkk
            have hf : (bs s).any badB = false := by have := HN.out; rw [← hl, List.take_length] at this; exact this
            go_wp2
            go_ret
            exact ⟨ret_bool (by first | rfl | (rw [hf]; rfl)), b2⟩
end Go.Proofs.YtkljadaggnbjkaaGreat

/- Attributes as pairs of strings, and contracts of the specification's functions on them. -/
namespace Go.Proofs.YtkljadaggnbjkaaGreat
open Go.RowKit
set_option maxRecDepth 100000
set_option linter.unusedVariables false

/-- The value of the first of that name, and true; nothing and false when there is none. -/
def attrOf : List (ByteArray × ByteArray) → ByteArray → ByteArray × Bool
  | [], _ => (⟨#[]⟩, false)
  | p :: ps, nm => if p.1 = nm then (p.2, true) else attrOf ps nm
def attrOk (p : ByteArray × ByteArray) : Bool := inB p.1.size 1 60 && decide (p.2.size ≤ 3000) && utfOk (bs p.1) && utfOk (bs p.2)
/-- The first i are right, and no two of them have one name. -/
def attrsTo (rs : List (ByteArray × ByteArray)) : Bool := rs.all attrOk && decide (rs.Pairwise fun p q => p.1 ≠ q.1)
def attrsOk (rs : List (ByteArray × ByteArray)) : Bool := decide (rs.length ≤ 20) && attrsTo rs
def attrAdd (rs : List (ByteArray × ByteArray)) (a : ByteArray × ByteArray) : List (ByteArray × ByteArray) := if (attrOf rs a.1).2 || decide (20 ≤ rs.length) || !attrOk a then rs else rs ++ [a]
def attrsSame (a b : List (ByteArray × ByteArray)) : Bool := decide (a.length = b.length) && a.all fun p => decide (attrOf b p.1 = (p.2, true))

theorem attrOf_drop {rs : List (ByteArray × ByteArray)} {nm : ByteArray} {k : Nat} (h : k < rs.length) : attrOf (rs.drop k) nm = if rs[k].1 = nm then (rs[k].2, true) else attrOf (rs.drop (k + 1)) nm := by
  rw [List.drop_eq_getElem_cons h]; rfl

set_option maxHeartbeats 1000000 in
set_option maxRecDepth 100000 in
theorem l4Attr_any (p : ByteArray × ByteArray) (w : World) (h1 : p.1.size ≤ 1099511627776) (h2 : p.2.size ≤ 1099511627776) :
    Calls Tryz.prog 96 #[.agg #[.string p.1, .string p.2]] w fun e w' => e = .returned (.bool (attrOk p)) ∧ Below w.heap.size w w' := by
  obtain ⟨n, v⟩ := p
  simp only at h1 h2 ⊢
  have c1 := fun w => l1In_any n.size 1 60 w
  have c2 := fun w => l1Ok_any n w h1
  have c3 := fun w => l1Ok_any v w h2
  have b1 : Below w.heap.size w (w.alloc (.cells #[.string n, .string v] 110)) := (Below.refl _ _).alloc (Nat.le_refl _) _
  obtain ⟨q1, e1⟩ : ∃ q, q = inB n.size 1 60 := ⟨_, rfl⟩
  obtain ⟨q2, e2⟩ : ∃ q, q = utfOk (bs n) := ⟨_, rfl⟩
  obtain ⟨q3, e3⟩ : ∃ q, q = utfOk (bs v) := ⟨_, rfl⟩
  have hv : attrOk (n, v) = (q1 && decide (v.size ≤ 3000) && q2 && q3) := by rw [e1, e2, e3]; rfl
  rw [hv]
  rw [← e1] at c1
  rw [← e2] at c2
  rw [← e3] at c3
  have C1 := (show Hid _ from c1)
  have C2 := (show Hid _ from c2)
  have C3 := (show Hid _ from c3)
  clear c1 c2 c3 e1 e2 e3 hv
  cases q1
  · go_enter Tryz.func96, Tryz.ntmps96
    go_wp2_with fail
    go_at_call 35
    refine (C1.out _).mono ?_
    rintro e w1 ⟨rfl, rfl⟩
    go_wp2
    go_ret
    exact ⟨ret_bool (by simp), b1⟩
  · by_cases hv : v.size ≤ 3000
    · cases q2
      · go_enter Tryz.func96, Tryz.ntmps96
        go_wp2_with fail
        go_at_call 35
        refine (C1.out _).mono ?_
        rintro e w1 ⟨rfl, rfl⟩
        go_wp2_with fail
        go_at_call 74
        refine (C2.out _).mono ?_
        rintro e w2 ⟨rfl, b2⟩
        replace b2 := b1.trans (b2.mono b1.size)
        go_wp2
        go_ret
        exact ⟨ret_bool (by simp), b2⟩
      · go_enter Tryz.func96, Tryz.ntmps96
        go_wp2_with fail
        go_at_call 35
        refine (C1.out _).mono ?_
        rintro e w1 ⟨rfl, rfl⟩
        go_wp2_with fail
        go_at_call 74
        refine (C2.out _).mono ?_
        rintro e w2 ⟨rfl, b2⟩
        have d1 : w2.cell? ⟨w.heap.size, 1, none⟩ = some (.string v) := by
          rw [b2.cell (p := ⟨w.heap.size, 1, none⟩) (by simp)]
          simp
        replace b2 := b1.trans (b2.mono b1.size)
        go_wp2_with fail
        go_at_call 74
        refine (C3.out _).mono ?_
        rintro e w3 ⟨rfl, b3⟩
        replace b3 := b2.trans (b3.mono b2.size)
        go_wp2
        go_ret
        exact ⟨ret_bool (by simp [hv]), b3⟩
    · go_enter Tryz.func96, Tryz.ntmps96
      go_wp2_with fail
      go_at_call 35
      refine (C1.out _).mono ?_
      rintro e w1 ⟨rfl, rfl⟩
      go_wp2
      go_ret
      exact ⟨ret_bool (by simp <;> omega), b1⟩
end Go.Proofs.YtkljadaggnbjkaaGreat
