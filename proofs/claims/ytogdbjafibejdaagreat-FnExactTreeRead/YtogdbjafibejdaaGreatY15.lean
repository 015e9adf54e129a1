/- Contracts of NameOk, the program's and the specification's, at every string of at most 2^40 bytes. -/
import Derived.Test.YtogdbjafibejdaaGreatY13
import Derived.Test.YtogdbjafibejdaaGreatY9
import Derived.Deep.RegionHeld
namespace Go.Proofs.YtogdbjafibejdaaGreat
open Go.RowKit
set_option maxRecDepth 100000
set_option linter.unusedVariables false

def badB (x : Int) : Bool := isBlank x || inB x 65 90 || isBar x
def nameOk (xs : List Int) : Bool := inB xs.length 1 60 && utfOk xs && inB (xs.getD 0 0) 97 122 && !(xs.any badB)

theorem wrap_byte {x : Int} (h0 : 0 ≤ x) (h1 : x ≤ 255) : IntKind.i64.wrap x = x := by
  have h : x % 2 ^ 64 = x := by omega
  simp only [IntKind.wrap, IntKind.bits, h]
  rw [if_neg]
  simp; omega

def KC (w : World) (g : Nat) : Prop := w.cell? ⟨g, 0, none⟩ = some (.func (.func 183) #[] #[]) ∧ w.cell? ⟨g, 1, none⟩ = some (.func (.func 184) #[] #[]) ∧ w.cell? ⟨g, 6, none⟩ = some (.func (.func 189) #[] #[])
theorem KC.lt {w : World} {g : Nat} (h : KC w g) : g < w.heap.size := by
  by_cases hl : g < w.heap.size
  · exact hl
  · have := h.1
    simp [World.cell?, Array.getElem?_eq_none (Nat.le_of_not_lt hl)] at this
theorem KC.below {w w' : World} {g : Nat} (h : KC w g) (hb : Below w.heap.size w w') : KC w' g :=
  ⟨(hb.cell (p := ⟨g, 0, none⟩) h.lt).trans h.1, (hb.cell (p := ⟨g, 1, none⟩) h.lt).trans h.2.1, (hb.cell (p := ⟨g, 6, none⟩) h.lt).trans h.2.2⟩
theorem any_succ {xs : List Int} {k : Nat} (h : k < xs.length) : (xs.take (k + 1)).any badB = ((xs.take k).any badB || badB (xs.getD k 0)) := by
  have hg : xs.getD k 0 = xs[k] := by simp [List.getD_eq_getElem?_getD, h]
  rw [List.take_succ_eq_append_getElem h, hg, List.any_append]
  simp only [List.any_cons, List.any_nil, Bool.or_false]
theorem any_of {xs : List Int} {k : Nat} (h : k < xs.length) (hb : badB (xs.getD k 0) = true) : xs.any badB = true := by
  have hg : xs.getD k 0 = xs[k] := by simp [List.getD_eq_getElem?_getD, h]
  rw [hg] at hb
  exact List.any_eq_true.mpr ⟨_, List.getElem_mem h, hb⟩

set_option maxHeartbeats 2000000 in
set_option maxRecDepth 100000 in
theorem inameOk_any (s : ByteArray) (w : World) (hs : s.size ≤ 1099511627776) :
    Calls Tryz.prog 110 #[.string s] w fun e w' => e = .returned (.bool (nameOk (bs s))) ∧ Below w.heap.size w w' := by
  have hl := bs_len s
  by_cases h1 : s.size < 1 ∨ 60 < s.size
  · have hn : nameOk (bs s) = false := by unfold nameOk; rw [hl, inB_no (by omega)]; rfl
    rw [hn]
    rcases h1 with h1 | h1
    · go_enter Tryz.func110, Tryz.ntmps110
      go_wp2
      go_ret
      exact ⟨rfl, Below.refl _ _⟩
    · go_enter Tryz.func110, Tryz.ntmps110
      go_wp2
      go_ret
      exact ⟨rfl, Below.refl _ _⟩
  · have h2 : 1 ≤ s.size := by omega
    have h3 : s.size ≤ 60 := by omega
    have h4 : 0 < s.size := by omega
    clear h1
    obtain ⟨cap, w1, hc, hk, hcap, hm, hb⟩ := conv_str s w (by unfold maxLen; omega)
    have hsl := hk.sl (n := s.size) (cap := cap) (by omega) (by omega) hm
    have hu := iutfOk_any hsl (bs_byte s) (by omega)
    have e1 : nameOk (bs s) = (utfOk (bs s) && inB ((bs s).getD 0 0) 97 122 && !((bs s).any badB)) := by unfold nameOk; rw [hl, inB_yes (by omega) (by omega)]; rfl
    obtain ⟨u, eu⟩ : ∃ u, u = utfOk (bs s) := ⟨_, rfl⟩
    rw [e1]
    rw [← eu] at hu ⊢
    clear e1 eu hk
    cases u
    · go_enter Tryz.func110, Tryz.ntmps110
      go_wp2_with fail
      go_at_call 153
      refine hu.mono ?_
      rintro e w2 ⟨rfl, b2⟩
      go_wp2
      go_ret
      exact ⟨rfl, hb.trans (b2.mono hb.size)⟩
    · have hat0 := bs_at s 0 (by omega)
      have hbd0 := bs_bound s 0
      obtain ⟨y, hy⟩ : ∃ y, y = (bs s).getD 0 0 := ⟨_, rfl⟩
      rw [← hy] at hat0 hbd0 ⊢
      clear hy
      have hk3 := fun w => k3_any y w
      obtain ⟨a, ha⟩ : ∃ a, a = inB y 97 122 := ⟨_, rfl⟩
      rw [← ha] at hk3 ⊢
      clear ha
      go_enter Tryz.func110, Tryz.ntmps110
      go_wp2_with fail
      go_at_call 153
      refine hu.mono ?_
      rintro e w2 ⟨rfl, b2⟩
      replace b2 := hb.trans (b2.mono hb.size)
      clear hu hc hsl hb
      go_wp2_with fail
      go_at_call 154
      refine (pointKinds_any _).mono ?_
      rintro e w3 ⟨rfl, b3⟩
      replace b3 := b2.trans (b3.mono b2.size)
      clear b2
      go_wp2
      go_quiet ((go_at_call 185; refine Calls.quiet_of_same (hk3 _)))
      cases a
      · go_wp2
        go_ret
        exact ⟨rfl, (b3.alloc b3.size _).trans (below_drewN _)⟩
      · have kc : KC ((w3.alloc (.cells #[.func (.func 183) #[] #[], .func (.func 184) #[] #[], .func (.func 185) #[] #[], .func (.func 186) #[] #[], .func (.func 187) #[] #[], .func (.func 188) #[] #[], .func (.func 189) #[] #[]] 170)).drewN nq) w3.heap.size := by
          refine ⟨?_, ?_, ?_⟩
          · simp
          · simp
          · simp
        have bel := (b3.alloc b3.size (.cells #[.func (.func 183) #[] #[], .func (.func 184) #[] #[], .func (.func 185) #[] #[], .func (.func 186) #[] #[], .func (.func 187) #[] #[], .func (.func 188) #[] #[], .func (.func 189) #[] #[]] 170)).trans (below_drewN nq)
        clear hat0 hbd0 hk3 b3
        simp only [Bool.not_true]
        go_wp2
        go_loopw [29] (fun i wr => ∃ k : Nat, k ≤ s.size ∧ i = .int .i64 k ∧ ((bs s).take k).any badB = false ∧ KC wr w3.heap.size ∧ Below w.heap.size w wr) (fun i _ => s.size - (intOf i).toNat)
        case atStart => exact ⟨0, Nat.zero_le _, rfl, by simp, kc, bel⟩
        case round =>
          clear kc bel
          obtain ⟨k, hks, rfl, hno, kc, bel⟩ := hrel
          have HN : Hid (((bs s).take k).any badB = false) := hno
          clear hno
          by_cases hlt : k < s.size
          · have hat := bs_at s k hlt
            have hbk := bs_bound s k
            have HA : Hid (((bs s).take (k + 1)).any badB = (((bs s).take k).any badB || badB ((bs s).getD k 0))) := any_succ (by omega)
            have HO : Hid (badB ((bs s).getD k 0) = true → (bs s).any badB = true) := any_of (by omega)
            obtain ⟨x, hx⟩ : ∃ x, x = (bs s).getD k 0 := ⟨_, rfl⟩
            rw [← hx] at hat hbk HA HO
            have hwx : IntKind.i64.wrap x = x := wrap_byte hbk.1 hbk.2
            clear hx
            have hany : ∀ (b : Nat) (w : World), w.cell? ⟨b, 0, none⟩ = some (.func (.func 183) #[] #[]) → w.cell? ⟨b, 1, none⟩ = some (.func (.func 184) #[] #[]) → w.cell? ⟨b, 2, none⟩ = some (.func (.func 189) #[] #[]) →
                Calls Tryz.prog 155 #[.int .i64 x, .slice (some ⟨b, 0, none⟩) 3 3] w fun e w' => e = .returned (.bool (badB x)) ∧ w' = w := fun b w h0 h1 h2 => any3_any x h0 h1 h2
            obtain ⟨p, hp⟩ : ∃ p, p = badB x := ⟨_, rfl⟩
            rw [← hp] at hany HA HO
            have HANY := (show Hid _ from hany)
            clear hp hany
            obtain ⟨c0, c1, c6⟩ := kc
            have KCC : Hid (KC wr w3.heap.size) := ⟨c0, c1, c6⟩
            go_wp2
            go_region_held (fun w' => w'.cell? ⟨w3.heap.size, 0, none⟩ = some (.func (.func 183) #[] #[]) ∧ w'.cell? ⟨w3.heap.size, 1, none⟩ = some (.func (.func 184) #[] #[]) ∧ w'.cell? ⟨w3.heap.size, 6, none⟩ = some (.func (.func 189) #[] #[])) (go_keep)
              ((go_at_call 155; refine (HANY.out _ _ (by simp) (by simp) (by simp)).mono ?_; rintro e w4 ⟨rfl, rfl⟩))
            all_goals
              have hbs := bel.size
              have hba := (bel.alloc hbs (.cells #[.func (.func 183) #[] #[], .func (.func 184) #[] #[], .func (.func 189) #[] #[]] 169))
              have hkc := KCC.out.below ((Below.refl _ wr).alloc (Nat.le_refl _) (.cells #[.func (.func 183) #[] #[], .func (.func 184) #[] #[], .func (.func 189) #[] #[]] 169))
              replace hba := hba.trans (below_drewN 1)
              replace hkc := hkc.below (below_drewN 1)
              cases p
              · go_wp2
                go_roundw
                case rel => exact ⟨k + 1, by omega, by go_num, by rw [HA.out, HN.out]; rfl, hkc, hba⟩
                case measure => simp [intOf]; omega
              · go_wp2
                go_ret
                exact ⟨ret_bool (by rw [HO.out (by simp)]; rfl), hba⟩
          · have hkk : k = s.size := by omega
            subst hkk
            have hf : (bs s).any badB = false := by have := HN.out; rw [← hl, List.take_length] at this; exact this
            go_wp2
            go_ret
            exact ⟨ret_bool (by rw [hf]; rfl), bel⟩
end Go.Proofs.YtogdbjafibejdaaGreat
