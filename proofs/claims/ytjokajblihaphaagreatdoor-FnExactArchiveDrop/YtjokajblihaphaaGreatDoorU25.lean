/- Contracts of NameOk, the program's and the specification's, at every string of at most 2^40 bytes. -/
import Derived.Test.YtjokajblihaphaaGreatDoorU10
import Derived.Test.YtjokajblihaphaaGreatDoorU24
import Derived.Deep.RegionHeld
import Derived.Test.YtjokajblihaphaaGreatDoorU14
namespace Go.Proofs.YtjokajblihaphaaGreatDoor
open Go.RowKit
set_option maxRecDepth 100000
set_option linter.unusedVariables false

def badB (x : Int) : Bool := isBlank x || inB x 65 90 || isBar x
def nameOk (xs : List Int) : Bool := inB xs.length 1 60 && utfOk xs && inB (xs.getD 0 0) 97 122 && !(xs.any badB)

theorem wrap_byte {x : Int} (h0 : 0 ≤ x) (h1 : x ≤ 255) : IntKind.i64.wrap x = x := by
  have h : x % 2 ^ 64 = x := by omega
  simp only [IntKind.wrap, IntKind.bits, h]
  rw [if_neg]
  simp; omega

theorem any_succ {xs : List Int} {k : Nat} (h : k < xs.length) : (xs.take (k + 1)).any badB = ((xs.take k).any badB || badB (xs.getD k 0)) := by
  have hg : xs.getD k 0 = xs[k] := by simp [List.getD_eq_getElem?_getD, h]
  rw [List.take_succ_eq_append_getElem h, hg, List.any_append]
  simp only [List.any_cons, List.any_nil, Bool.or_false]
theorem any_of {xs : List Int} {k : Nat} (h : k < xs.length) (hb : badB (xs.getD k 0) = true) : xs.any badB = true := by
  have hg : xs.getD k 0 = xs[k] := by simp [List.getD_eq_getElem?_getD, h]
  rw [hg] at hb
  exact List.any_eq_true.mpr ⟨_, List.getElem_mem h, hb⟩

end Go.Proofs.YtjokajblihaphaaGreatDoor

/- Contracts of the specification's NameOk, at every string of at most 2^40 bytes. -/
namespace Go.Proofs.YtjokajblihaphaaGreatDoor
open Go.RowKit
set_option maxRecDepth 100000
set_option linter.unusedVariables false

theorem l1Ok_any (s : ByteArray) (w : World) (hs : s.size ≤ 1099511627776) : Calls Tryz.prog 183 #[.string s] w fun e w' => e = .returned (.bool (utfOk (bs s))) ∧ Below w.heap.size w w' := by
  obtain ⟨cap, w1, hc, hk, hcap, hm, hb⟩ := conv_str s w (by unfold maxLen; omega)
  have hl := bs_len s
  have hsl := hk.sl (n := s.size) (cap := cap) (by omega) (by omega) hm
  have hu := sutfOk_any hsl (bs_byte s) (by omega)
  clear hk
  go_enter Tryz.func183, Tryz.ntmps183
  go_wp2_with fail
  go_at_call 223
  refine hu.mono ?_
  rintro e w2 ⟨rfl, b2⟩
  go_wp2
  go_ret
  exact ⟨rfl, hb.trans (b2.mono hb.size)⟩

theorem isBar_iff (x : Int) : isBar x = true ↔ x = 0 ∨ x = 47 ∨ x = 62 := by simp [isBar, or_assoc]

set_option maxHeartbeats 4000000 in
set_option maxRecDepth 100000 in
theorem snameOk_any (s : ByteArray) (w : World) (hs : s.size ≤ 1099511627776) :
    Calls Tryz.prog 184 #[.string s] w fun e w' => e = .returned (.bool (nameOk (bs s))) ∧ Below w.heap.size w w' := by
  have hl := bs_len s
  have hin := fun w => l1In_any s.size 1 60 w
  by_cases h1 : s.size < 1 ∨ 60 < s.size
  · have hn : nameOk (bs s) = false := by unfold nameOk; rw [hl, inB_no (by omega)]; rfl
    rw [hn]
    rw [inB_no (by omega)] at hin
    go_enter Tryz.func184, Tryz.ntmps184
    go_wp2_with fail
    go_at_call 88
    refine (hin _).mono ?_
    rintro e w2 ⟨rfl, rfl⟩
    go_wp2
    go_ret
    exact ⟨rfl, Below.refl _ _⟩
  · have h2 : 1 ≤ s.size := by omega
    have h3 : s.size ≤ 60 := by omega
    have h4 : 0 < s.size := by omega
    clear h1
    rw [inB_yes (by omega) (by omega)] at hin
    have hu := fun w => l1Ok_any s w hs
    have e1 : nameOk (bs s) = (utfOk (bs s) && inB ((bs s).getD 0 0) 97 122 && !((bs s).any badB)) := by unfold nameOk; rw [hl, inB_yes (by omega) (by omega)]; rfl
    obtain ⟨u, eu⟩ : ∃ u, u = utfOk (bs s) := ⟨_, rfl⟩
    rw [e1]
    rw [← eu] at hu ⊢
    clear e1 eu
    cases u
    · go_enter Tryz.func184, Tryz.ntmps184
      go_wp2_with fail
      go_at_call 88
      refine (hin _).mono ?_
      rintro e w1 ⟨rfl, rfl⟩
      go_wp2_with fail
      go_at_call 183
      refine (hu _).mono ?_
      rintro e w2 ⟨rfl, b2⟩
      go_wp2
      go_ret
      exact ⟨rfl, b2⟩
    · have hat0 := bs_at s 0 (by omega)
      have hbd0 := bs_bound s 0
      obtain ⟨y, hy⟩ : ∃ y, y = (bs s).getD 0 0 := ⟨_, rfl⟩
      rw [← hy] at hat0 hbd0 ⊢
      clear hy
      by_cases ha : y < 97 ∨ 122 < y
      · rw [inB_no ha]
        rcases ha with ha | ha
        · go_enter Tryz.func184, Tryz.ntmps184
          go_wp2_with fail
          go_at_call 88
          refine (hin _).mono ?_
          rintro e w1 ⟨rfl, rfl⟩
          go_wp2_with fail
          go_at_call 183
          refine (hu _).mono ?_
          rintro e w2 ⟨rfl, b2⟩
          go_wp2
          go_ret
          exact ⟨rfl, b2⟩
        · go_enter Tryz.func184, Tryz.ntmps184
          go_wp2_with fail
          go_at_call 88
          refine (hin _).mono ?_
          rintro e w1 ⟨rfl, rfl⟩
          go_wp2_with fail
          go_at_call 183
          refine (hu _).mono ?_
          rintro e w2 ⟨rfl, b2⟩
          go_wp2
          go_ret
          exact ⟨rfl, b2⟩
      · have ha0 : 97 ≤ y := by omega
        have ha1 : y ≤ 122 := by omega
        clear ha
        rw [inB_yes ha0 ha1]
        go_enter Tryz.func184, Tryz.ntmps184
        go_wp2_with fail
        go_at_call 88
        refine (hin _).mono ?_
        rintro e w1 ⟨rfl, rfl⟩
        go_wp2_with fail
        go_at_call 183
        refine (hu _).mono ?_
        rintro e w2 ⟨rfl, b2⟩
        clear hin hu
        go_wp2
        clear hat0 hbd0 ha0 ha1
        go_loop [3] (fun i => ∃ k : Nat, k ≤ s.size ∧ i = .int .i64 k ∧ ((bs s).take k).any badB = false) (fun i => s.size - (intOf i).toNat)
        case atStart => exact ⟨0, Nat.zero_le _, rfl, by simp⟩
        case round =>
          obtain ⟨k, hks, rfl, hno⟩ := hrel
          have HN : Hid (((bs s).take k).any badB = false) := hno
          clear hno
          by_cases hlt : k < s.size
          · have hat := bs_at s k hlt
            have hbk := bs_bound s k
            have HA : Hid (((bs s).take (k + 1)).any badB = (((bs s).take k).any badB || badB ((bs s).getD k 0))) := any_succ (by omega)
            have HO : Hid (badB ((bs s).getD k 0) = true → (bs s).any badB = true) := any_of (by omega)
            obtain ⟨x, hx⟩ : ∃ x, x = (bs s).getD k 0 := ⟨_, rfl⟩
            rw [← hx] at hat hbk HA HO
            clear hx
            have hbl := fun w => sblank_any x w
            rcases hb : isBlank x with _ | _
            · rw [hb] at hbl
              rcases (show x = 47 ∨ x = 62 ∨ x = 0 ∨ (65 ≤ x ∧ x ≤ 90) ∨ (x ≠ 47 ∧ x ≠ 62 ∧ x ≠ 0 ∧ (x < 65 ∨ 90 < x)) by omega) with h | h | h | h | h
              · subst h
                go_wp2_with fail
                go_at_call 213
                refine (hbl _).mono ?_
                rintro e w3 ⟨rfl, rfl⟩
                go_wp2
                go_ret
                exact ⟨ret_bool (by rw [HO.out (by decide)]; rfl), b2⟩
              · subst h
                go_wp2_with fail
                go_at_call 213
                refine (hbl _).mono ?_
                rintro e w3 ⟨rfl, rfl⟩
                go_wp2
                go_ret
                exact ⟨ret_bool (by rw [HO.out (by decide)]; rfl), b2⟩
              · subst h
                go_wp2_with fail
                go_at_call 213
                refine (hbl _).mono ?_
                rintro e w3 ⟨rfl, rfl⟩
                go_wp2
                go_ret
                exact ⟨ret_bool (by rw [HO.out (by decide)]; rfl), b2⟩
              · have hbad : Hid (badB x = true) := by show badB x = true; unfold badB; rw [inB_yes h.1 h.2]; simp
                obtain ⟨h5, h6⟩ := h
                have n0 : (x == 47) = false := by simp; omega
                have n1 : (x == 62) = false := by simp; omega
                have n2 : (x == 0) = false := by simp; omega
                clear hb
                go_wp2_with fail
                go_at_call 213
                refine (hbl _).mono ?_
                rintro e w3 ⟨rfl, rfl⟩
                go_wp2
                go_ret
                exact ⟨ret_bool (by rw [HO.out hbad.out]; rfl), b2⟩
              · obtain ⟨m0, m1, m2, h5⟩ := h
                have hbad : Hid (badB x = false) := by show badB x = false; unfold badB; rw [hb, inB_no h5]; simp [isBar, m0, m1, m2]
                have n0 : (x == 47) = false := by simp; omega
                have n1 : (x == 62) = false := by simp; omega
                have n2 : (x == 0) = false := by simp; omega
                clear hb m0 m1 m2
                rcases h5 with h5 | h5
                · go_wp2_with fail
                  go_at_call 213
                  refine (hbl _).mono ?_
                  rintro e w3 ⟨rfl, rfl⟩
                  go_wp2
                  go_round
                  case rel => exact ⟨k + 1, by omega, by go_num, by rw [HA.out, HN.out, hbad.out]; rfl⟩
                  case measure => simp [intOf]; omega
                · go_wp2_with fail
                  go_at_call 213
                  refine (hbl _).mono ?_
                  rintro e w3 ⟨rfl, rfl⟩
                  go_wp2
                  go_round
                  case rel => exact ⟨k + 1, by omega, by go_num, by rw [HA.out, HN.out, hbad.out]; rfl⟩
                  case measure => simp [intOf]; omega
            · rw [hb] at hbl
              have hbad : Hid (badB x = true) := by show badB x = true; unfold badB; rw [hb]; rfl
              clear hb
              go_wp2_with fail
              go_at_call 213
              refine (hbl _).mono ?_
              rintro e w3 ⟨rfl, rfl⟩
              go_wp2
              go_ret
              exact ⟨ret_bool (by rw [HO.out hbad.out]; rfl), b2⟩
          · have hkk : k = s.size := by omega
            subst hkk
            have hf : (bs s).any badB = false := by have := HN.out; rw [← hl, List.take_length] at this; exact this
            go_wp2
            go_ret
            exact ⟨ret_bool (by first | rfl | (rw [hf]; rfl)), b2⟩
end Go.Proofs.YtjokajblihaphaaGreatDoor

/- Attributes as pairs of strings, and contracts of the specification's functions on them. -/
namespace Go.Proofs.YtjokajblihaphaaGreatDoor
open Go.RowKit
set_option maxRecDepth 100000
set_option linter.unusedVariables false

/-- The value of the first of that name, and true; nothing and false when there is none. -/
def attrOf : List (ByteArray × ByteArray) → ByteArray → ByteArray × Bool
  | [], _ => (⟨#[]⟩, false)
  | p :: ps, nm => if p.1 = nm then (p.2, true) else attrOf ps nm
def attrOk (p : ByteArray × ByteArray) : Bool := inB p.1.size 1 60 && decide (p.2.size ≤ 3000) && utfOk (bs p.1) && utfOk (bs p.2)
/-- The first i are right, and no two of them have one name. -/
def attrsTo (rs : List (ByteArray × ByteArray)) : Bool := rs.all attrOk && decide (rs.Pairwise fun p q => p.1 ≠ q.1)
def attrsOk (rs : List (ByteArray × ByteArray)) : Bool := decide (rs.length ≤ 20) && attrsTo rs
def attrAdd (rs : List (ByteArray × ByteArray)) (a : ByteArray × ByteArray) : List (ByteArray × ByteArray) := if (attrOf rs a.1).2 || decide (20 ≤ rs.length) || !attrOk a then rs else rs ++ [a]
def attrsSame (a b : List (ByteArray × ByteArray)) : Bool := decide (a.length = b.length) && a.all fun p => decide (attrOf b p.1 = (p.2, true))

theorem attrOf_drop {rs : List (ByteArray × ByteArray)} {nm : ByteArray} {k : Nat} (h : k < rs.length) : attrOf (rs.drop k) nm = if rs[k].1 = nm then (rs[k].2, true) else attrOf (rs.drop (k + 1)) nm := by
  rw [List.drop_eq_getElem_cons h]; rfl

set_option maxHeartbeats 1000000 in
set_option maxRecDepth 100000 in
theorem sattrOf_any {v : Value} {rs : List (ByteArray × ByteArray)} {w : World} (h : Sv 2 w v (pairCells rs)) (nm : ByteArray) (hn : rs.length ≤ 1099511627776) :
    Calls Tryz.prog 242 #[v, .string nm] w fun e w' => e = .returned (.tuple #[.string (attrOf rs nm).1, .bool (attrOf rs nm).2]) ∧ w' = w := by
  obtain ⟨a, ca, rfl, _, _, hca⟩ := h.pair
  clear h
  go_enter Tryz.func242, Tryz.ntmps242
  go_wp2
  go_loop [6] (fun i => ∃ k : Nat, k ≤ rs.length ∧ i = .int .i64 k ∧ attrOf (rs.drop k) nm = attrOf rs nm) (fun i => rs.length - (intOf i).toNat)
  case atStart => exact ⟨0, Nat.zero_le _, rfl, rfl⟩
  case round =>
    obtain ⟨k, hk, rfl, he⟩ := hrel
    by_cases hlt : k < rs.length
    · obtain ⟨b1, o1, rfl, l1, c1, c2⟩ := hca k hlt
      rw [attrOf_drop hlt] at he
      obtain ⟨x, hx⟩ : ∃ x, x = rs[k] := ⟨_, rfl⟩
      rw [← hx] at c1 c2 he
      have HE := (show Hid _ from he)
      clear he hx hca
      obtain ⟨xn, xv⟩ := x
      simp only at c1 c2 HE
      by_cases hm : xn = nm
      · have HE2 : Hid (attrOf rs nm = (xv, true)) := by have := HE.out; rw [if_pos hm] at this; exact this.symm
        subst hm
        clear HE
        go_wp2
        go_ret2
        exact ⟨by rw [HE2.out]; rfl, rfl⟩
      · have HE2 := HE.out
        rw [if_neg hm] at HE2
        have HE3 := (show Hid _ from HE2)
        have hd := toList_ne hm
        clear HE HE2
        go_wp2
        go_round
        case rel => exact ⟨k + 1, by omega, by go_num, HE3.out⟩
        case measure => simp [intOf]; omega
    · have hke : k = rs.length := by omega
      rw [hke, List.drop_length] at he
      have HE := (show Hid _ from he)
      clear he hca
      go_wp2
      go_ret2
      exact ⟨by rw [← HE.out]; rfl, rfl⟩

set_option maxHeartbeats 1000000 in
set_option maxRecDepth 100000 in
theorem l4Attr_any (p : ByteArray × ByteArray) (w : World) (h1 : p.1.size ≤ 1099511627776) (h2 : p.2.size ≤ 1099511627776) :
    Calls Tryz.prog 224 #[.agg #[.string p.1, .string p.2]] w fun e w' => e = .returned (.bool (attrOk p)) ∧ Below w.heap.size w w' := by
  obtain ⟨n, v⟩ := p
  simp only at h1 h2 ⊢
  have c1 := fun w => l1In_any n.size 1 60 w
  have c2 := fun w => l1Ok_any n w h1
  have c3 := fun w => l1Ok_any v w h2
  have b1 : Below w.heap.size w (w.alloc (.cells #[.string n, .string v] 167)) := (Below.refl _ _).alloc (Nat.le_refl _) _
  obtain ⟨q1, e1⟩ : ∃ q, q = inB n.size 1 60 := ⟨_, rfl⟩
  obtain ⟨q2, e2⟩ : ∃ q, q = utfOk (bs n) := ⟨_, rfl⟩
  obtain ⟨q3, e3⟩ : ∃ q, q = utfOk (bs v) := ⟨_, rfl⟩
  have hv : attrOk (n, v) = (q1 && decide (v.size ≤ 3000) && q2 && q3) := by rw [e1, e2, e3]; rfl
  rw [hv]
  rw [← e1] at c1
  rw [← e2] at c2
  rw [← e3] at c3
  have C1 := (show Hid _ from c1)
  have C2 := (show Hid _ from c2)
  have C3 := (show Hid _ from c3)
  clear c1 c2 c3 e1 e2 e3 hv
  cases q1
  · go_enter Tryz.func224, Tryz.ntmps224
    go_wp2_with fail
    go_at_call 88
    refine (C1.out _).mono ?_
    rintro e w1 ⟨rfl, rfl⟩
    go_wp2
    go_ret
    exact ⟨ret_bool (by simp), b1⟩
  · by_cases hv : v.size ≤ 3000
    · cases q2
      · go_enter Tryz.func224, Tryz.ntmps224
        go_wp2_with fail
        go_at_call 88
        refine (C1.out _).mono ?_
        rintro e w1 ⟨rfl, rfl⟩
        go_wp2_with fail
        go_at_call 183
        refine (C2.out _).mono ?_
        rintro e w2 ⟨rfl, b2⟩
        replace b2 := b1.trans (b2.mono b1.size)
        go_wp2
        go_ret
        exact ⟨ret_bool (by simp), b2⟩
      · go_enter Tryz.func224, Tryz.ntmps224
        go_wp2_with fail
        go_at_call 88
        refine (C1.out _).mono ?_
        rintro e w1 ⟨rfl, rfl⟩
        go_wp2_with fail
        go_at_call 183
        refine (C2.out _).mono ?_
        rintro e w2 ⟨rfl, b2⟩
        have d1 : w2.cell? ⟨w.heap.size, 1, none⟩ = some (.string v) := by
          rw [b2.cell (p := ⟨w.heap.size, 1, none⟩) (by simp)]
          simp
        replace b2 := b1.trans (b2.mono b1.size)
        go_wp2_with fail
        go_at_call 183
        refine (C3.out _).mono ?_
        rintro e w3 ⟨rfl, b3⟩
        replace b3 := b2.trans (b3.mono b2.size)
        go_wp2
        go_ret
        exact ⟨ret_bool (by simp [hv]), b3⟩
    · go_enter Tryz.func224, Tryz.ntmps224
      go_wp2_with fail
      go_at_call 88
      refine (C1.out _).mono ?_
      rintro e w1 ⟨rfl, rfl⟩
      go_wp2
      go_ret
      exact ⟨ret_bool (by simp <;> omega), b1⟩
end Go.Proofs.YtjokajblihaphaaGreatDoor

/- The specification's IndexFind. No condition. -/
namespace Go.Proofs.YtjokajblihaphaaGreatDoor
open Go.RowKit
set_option maxRecDepth 100000
set_option linter.unusedVariables false

set_option maxHeartbeats 1000000 in
set_option maxRecDepth 100000 in
theorem sindexFind_any {v : Value} {rs : List (ByteArray × ByteArray)} {w : World} (h : Sv 2 w v (pairCells rs)) (nm : ByteArray) (hn : rs.length ≤ 1099511627776) :
    Calls Tryz.prog 71 #[v, .string nm] w fun e w' => e = .returned (.tuple #[.string (attrOf rs nm).1, .bool (attrOf rs nm).2]) ∧ w' = w := by
  obtain ⟨a, ca, rfl, _, _, hca⟩ := h.pair
  clear h
  go_enter Tryz.func71, Tryz.ntmps71
  go_wp2
  go_loop [6] (fun i => ∃ k : Nat, k ≤ rs.length ∧ i = .int .i64 k ∧ attrOf (rs.drop k) nm = attrOf rs nm) (fun i => rs.length - (intOf i).toNat)
  case atStart => exact ⟨0, Nat.zero_le _, rfl, rfl⟩
  case round =>
    obtain ⟨k, hk, rfl, he⟩ := hrel
    by_cases hlt : k < rs.length
    · obtain ⟨b1, o1, rfl, l1, c1, c2⟩ := hca k hlt
      rw [attrOf_drop hlt] at he
      obtain ⟨x, hx⟩ : ∃ x, x = rs[k] := ⟨_, rfl⟩
      rw [← hx] at c1 c2 he
      have HE := (show Hid _ from he)
      clear he hx hca
      obtain ⟨xn, xv⟩ := x
      simp only at c1 c2 HE
      by_cases hm : xn = nm
      · have HE2 : Hid (attrOf rs nm = (xv, true)) := by have := HE.out; rw [if_pos hm] at this; exact this.symm
        subst hm
        clear HE
        go_wp2
        go_ret2
        exact ⟨by rw [HE2.out]; rfl, rfl⟩
      · have HE2 := HE.out
        rw [if_neg hm] at HE2
        have HE3 := (show Hid _ from HE2)
        have hd := toList_ne hm
        clear HE HE2
        go_wp2
        go_round
        case rel => exact ⟨k + 1, by omega, by go_num, HE3.out⟩
        case measure => simp [intOf]; omega
    · have hke : k = rs.length := by omega
      rw [hke, List.drop_length] at he
      have HE := (show Hid _ from he)
      clear he hca
      go_wp2
      go_ret2
      exact ⟨by rw [← HE.out]; rfl, rfl⟩
end Go.Proofs.YtjokajblihaphaaGreatDoor

/- The specification's IndexPack. No condition. -/
namespace Go.Proofs.YtjokajblihaphaaGreatDoor
open Go.RowKit
set_option maxRecDepth 100000
set_option linter.unusedVariables false

def recE (p : ByteArray × ByteArray) : PRec := ⟨1, p.1, p.2⟩
def packE : List (ByteArray × ByteArray) → Option (List Int)
  | [] => some []
  | p :: ps => if recB (recE p) = true then (packE ps).map (recL (recE p) ++ ·) else none
def packX (ps : List (ByteArray × ByteArray)) : List Int × Bool := match packE ps with
  | some l => (l, true)
  | none => ([], false)
theorem packE_drop {ps : List (ByteArray × ByteArray)} {k : Nat} (h : k < ps.length) : packE (ps.drop k) = if recB (recE ps[k]) = true then (packE (ps.drop (k + 1))).map (recL (recE ps[k]) ++ ·) else none := by
  rw [List.drop_eq_getElem_cons h]; rfl
theorem recL_len {r : PRec} (h : recB r = true) : (recL r).length ≤ 87 + r.body.size := by
  obtain ⟨_, hu, _⟩ := recB_kind h
  have h1 := form_len r.kind
  have h2 := textForm_len r.url
  have h3 := textForm_len r.body
  have h4 : r.url.size ≤ 60 := by
    simp only [urlB, inB, Bool.and_eq_true, decide_eq_true_eq] at hu
    omega
  unfold recL
  rw [List.length_append, List.length_append]
  split
  · omega
  · simp; omega

set_option maxHeartbeats 400000 in
set_option maxRecDepth 100000 in
theorem sindexPack_any {v : Value} {ps : List (ByteArray × ByteArray)} {w : World} (h : Sv 2 w v (pairCells ps)) (hn : ps.length ≤ 1048576) (hs : ∀ p ∈ ps, p.1.size ≤ 1048576 ∧ p.2.size ≤ 1048576) :
    Calls Tryz.prog 66 #[v] w fun e w' => ∃ v', e = .returned (.tuple #[v', .bool (packX ps).2]) ∧ Own w.heap.size 5 .u8 w' v' (packX ps).1 ∧ Below w.heap.size w w' := by
  have H := (show Hid (Sv 2 w v (pairCells ps)) from h)
  obtain ⟨a, ca, rfl, _, _, hca⟩ := h.pair
  have HC := (show Hid _ from hca)
  have HZ := (show Hid _ from hs)
  obtain ⟨i0, hi, hz0, hz1, hz2⟩ := info_parts Tryz.infoB
  clear h hca hs
  go_enter Tryz.func66, Tryz.ntmps66
  go_wp2_with fail
  have b1 : Below w.heap.size w (w.alloc (.cells #[] 5)) := (Below.refl _ _).alloc (Nat.le_refl _) _
  have o1 := own_empty 5 .u8 w
  go_loopw [4, 5] (fun z s wr => ∃ (k : Nat) (pre : List Int), k ≤ ps.length ∧ s = .int .i64 (k : Int) ∧ Own w.heap.size 5 .u8 wr z pre ∧ Hid ((packE (ps.drop k)).map (pre ++ ·) = packE ps) ∧ pre.length ≤ k * 1048663 ∧ Below w.heap.size w wr) (fun _ s _ => ps.length - (intOf s).toNat)
  case atStart => exact ⟨0, [], Nat.zero_le _, rfl, o1, (show _ = _ by cases h : packE ps <;> simp [h]), by simp, b1⟩
  case round =>
    clear b1 o1
    obtain ⟨k, pre, hk, rfl, o2, hF, hp, b2⟩ := hrel
    have O2 := (show Hid (Own w.heap.size 5 .u8 wr u4 pre) from o2)
    have B2 := (show Hid (Below w.heap.size w wr) from b2)
    clear o2 b2
    by_cases hlt : k < ps.length
    · have hlt' : (k : Int) < (ps.length : Int) := by omega
      obtain ⟨b1, o1, rfl, l1, c1, c2⟩ := HC.out k hlt
      have z1 := HZ.out _ (List.getElem_mem hlt)
      have HD := (show Hid _ from packE_drop hlt)
      obtain ⟨x, hx⟩ : ∃ x, x = ps[k] := ⟨_, rfl⟩
      rw [← hx] at c1 c2 z1 HD
      clear hx
      obtain ⟨xu, xb⟩ := x
      simp only at c1 c2 z1
      have CP := (show Hid (∀ W, Calls Tryz.prog 72 #[.agg #[.int .i64 1, .string xu, .string xb]] W fun e w' => ∃ v, e = .returned (.tuple #[v, .bool (packR ⟨1, xu, xb⟩).2]) ∧ Own W.heap.size 5 .u8 w' v (packR ⟨1, xu, xb⟩).1 ∧ Below W.heap.size W w') from fun W => srecPack_any ⟨1, xu, xb⟩ W (by show xu.size ≤ _; omega) (by show xb.size ≤ _; omega))
      have HS := (show Hid (∀ W, Below w.heap.size w W → W.cell? ⟨b1, o1 + k * 2, none⟩ = some (.string xu) ∧ W.cell? ⟨b1, o1 + k * 2 + 1, none⟩ = some (.string xb)) from fun W b => ⟨(b.cell (p := ⟨b1, o1 + k * 2, none⟩) l1).trans c1, (b.cell (p := ⟨b1, o1 + k * 2 + 1, none⟩) l1).trans c2⟩)
      have HL := (show Hid (recB (recE (xu, xb)) = true → (recL (recE (xu, xb))).length ≤ 87 + xb.size) from fun e => recL_len e)
      have HP := (show Hid (packR ⟨1, xu, xb⟩ = if recB (recE (xu, xb)) = true then (recL (recE (xu, xb)), true) else ([], false)) from rfl)
      obtain ⟨L, hL⟩ : ∃ L, L = recL (recE (xu, xb)) := ⟨_, rfl⟩
      obtain ⟨ok, hok⟩ : ∃ ok, ok = recB (recE (xu, xb)) := ⟨_, rfl⟩
      rw [← hL, ← hok] at HD HL HP
      have KD := (show Hid (Below w.heap.size w wr.drew) from B2.out.trans ((below_drewN 1).mono B2.out.size))
      clear hL hok c1 c2
      obtain ⟨c1, c2⟩ := HS.out _ B2.out
      cases ok
      · rw [if_neg (by decide)] at HD HP
        rw [HP.out] at CP
        have HR : Hid (packX ps = ([], false)) := (show packX ps = ([], false) by
          have := hF.out
          rw [HD.out] at this
          rw [packX, ← this]; rfl)
        clear HD HP HL hF
        go_wp2_with fail
        go_region_held3 (fun w' => w'.cell? ⟨b1, o1 + k * 2, none⟩ = some (.string xu) ∧ w'.cell? ⟨b1, o1 + k * 2 + 1, none⟩ = some (.string xb))
          (first | exact HS.out _ KD.out | exact HS.out _ B3.out)
          (first
            | (go_at_call 72
               with_reducible refine Calls.mono (CP.out _) ?_
               rintro e w3 ⟨v3, rfl, o3, b3⟩
               have B3 := (show Hid (Below w.heap.size w w3) from KD.out.trans (b3.mono KD.out.size))
               have O23 := (show Hid (Own w.heap.size 5 .u8 w3 u4 pre) from (O2.out.below (below_drewN 1)).below b3)
               have O3 := (show Hid (Own wr.drew.heap.size 5 .u8 w3 v3 []) from o3)
               clear b3 o3))
        go_wp2
        go_ret2
        exact ⟨_, by rw [HR.out]; rfl, by rw [HR.out]; exact (own_empty _ _ _).base B3.out.size, B3.out.alloc B3.out.size _⟩
      · rw [if_pos rfl] at HD HP
        rw [HP.out] at CP
        have hL := HL.out rfl
        have HH : Hid ((packE (ps.drop (k + 1))).map ((pre ++ L) ++ ·) = packE ps) := (show _ = _ by
          rw [← hF.out, HD.out]
          cases packE (ps.drop (k + 1)) <;> simp)
        have hk2 : k * 1048663 ≤ 1048576 * 1048663 := Nat.mul_le_mul_right _ (by omega)
        clear HD HP HL hF
        go_wp2_with fail
        go_region_held3 (fun w' => w'.cell? ⟨b1, o1 + k * 2, none⟩ = some (.string xu) ∧ w'.cell? ⟨b1, o1 + k * 2 + 1, none⟩ = some (.string xb))
          (first | exact HS.out _ KD.out | exact HS.out _ B3.out)
          (first
            | (go_at_call 72
               with_reducible refine Calls.mono (CP.out _) ?_
               rintro e w3 ⟨v3, rfl, o3, b3⟩
               have B3 := (show Hid (Below w.heap.size w w3) from KD.out.trans (b3.mono KD.out.size))
               have O23 := (show Hid (Own w.heap.size 5 .u8 w3 u4 pre) from (O2.out.below (below_drewN 1)).below b3)
               have O3 := (show Hid (Own wr.drew.heap.size 5 .u8 w3 v3 L) from o3)
               clear b3 o3))
        go_wp2_with (at_builtin
                     refine wpList_app _ rfl (.tmp 33) (.tmp 34) 68 rfl w.heap.size 5 i0 (.int .u8 0) 1 Tryz.underlying68 hi hz0 hz1 hz2 rfl .u8 u4 v3 pre L rfl rfl O23.out O3.out.sl (by omega) (by unfold maxLen; omega) B3.out.size ?_
                     intro v5 w5 o5 g5
                     have B5 := (show Hid (Below w.heap.size w w5) from B3.out.grown g5 B3.out.size (fun r e => (World.ownsRow.lt O23.out r e).1))
                     have O5 := (show Hid (Own w.heap.size 5 .u8 w5 v5 (pre ++ L)) from o5)
                     clear o5 g5)
        go_roundw
        case rel => exact ⟨k + 1, pre ++ L, hlt, by go_num, O5.out, HH, by rw [List.length_append]; omega, B5.out⟩
        case measure => simp [intOf]; omega
    · obtain rfl : k = ps.length := by omega
      have hn' : ¬ ((ps.length : Int) < (ps.length : Int)) := by omega
      have HR : Hid (packX ps = (pre, true)) := (show packX ps = (pre, true) by
        have := hF.out
        rw [List.drop_length] at this
        rw [packX, ← this]; simp [packE])
      clear hF
      go_wp2
      go_ret2
      exact ⟨_, by rw [HR.out]; rfl, by rw [HR.out]; exact O2.out, B2.out⟩
end Go.Proofs.YtjokajblihaphaaGreatDoor

/- The index, plainly. No condition. -/
namespace Go.Proofs.YtjokajblihaphaaGreatDoor
open Go.RowKit
set_option maxRecDepth 100000
set_option linter.unusedVariables false

/-- One text is less than another, byte by byte. -/
def slt (a b : ByteArray) : Bool := Op.bytesLess a.toList b.toList
/-- A record is put into the index; 'put' says that nothing is to be put any more. -/
def insE (r : PRec) : Bool → List (ByteArray × ByteArray) → List (ByteArray × ByteArray)
  | put, [] => if put = true then [] else [(r.url, r.body)]
  | put, e :: es => (if (!put && !(slt e.1 r.url)) = true then [(r.url, r.body)] else []) ++ (if e.1 = r.url then [] else [e]) ++ insE r (put || !(slt e.1 r.url)) es
def idxN : List PRec → List (ByteArray × ByteArray) → List (ByteArray × ByteArray)
  | [], out => out
  | r :: rs, out => idxN rs (insE r (decide (r.kind ≠ 1)) out)
def idxOf (rs : List PRec) : List (ByteArray × ByteArray) := idxN rs []
theorem insE_drop {r : PRec} {put : Bool} {es : List (ByteArray × ByteArray)} {k : Nat} (h : k < es.length) : insE r put (es.drop k) = (if (!put && !(slt es[k].1 r.url)) = true then [(r.url, r.body)] else []) ++ (if es[k].1 = r.url then [] else [es[k]]) ++ insE r (put || !(slt es[k].1 r.url)) (es.drop (k + 1)) := by
  rw [List.drop_eq_getElem_cons h]; rfl
theorem insE_len (r : PRec) (put : Bool) (es : List (ByteArray × ByteArray)) : (insE r put es).length ≤ es.length + (if put = true then 0 else 1) := by
  induction es generalizing put with
  | nil => cases put <;> simp [insE]
  | cons e es ih =>
    rw [insE, List.length_append, List.length_append, List.length_cons]
    have := ih (put || !(slt e.1 r.url))
    cases put <;> cases hs : slt e.1 r.url <;> simp [hs] at this ⊢ <;> split <;> simp <;> omega
theorem idxN_len (rs : List PRec) (out : List (ByteArray × ByteArray)) : (idxN rs out).length ≤ out.length + rs.length := by
  induction rs generalizing out with
  | nil => simp [idxN]
  | cons r rs ih =>
    have h1 := ih (insE r (decide (r.kind ≠ 1)) out)
    have h2 := insE_len r (decide (r.kind ≠ 1)) out
    rw [idxN, List.length_cons]
    split at h2 <;> omega
theorem idxN_drop {rs : List PRec} {k : Nat} (h : k < rs.length) (out : List (ByteArray × ByteArray)) : idxN (rs.drop k) out = idxN (rs.drop (k + 1)) (insE rs[k] (decide (rs[k].kind ≠ 1)) out) := by
  rw [List.drop_eq_getElem_cons h]; rfl

theorem recCells_at {rs : List PRec} {k : Nat} (hk : k < rs.length) : (recCells rs)[k * 3]? = some (.int .i64 rs[k].kind) ∧ (recCells rs)[k * 3 + 1]? = some (.string rs[k].url) ∧ (recCells rs)[k * 3 + 2]? = some (.string rs[k].body) := by
  induction rs generalizing k with
  | nil => simp at hk
  | cons r rs ih =>
    cases k with
    | zero => exact ⟨rfl, rfl, rfl⟩
    | succ k =>
      have := ih (k := k) (by simpa using hk)
      rw [recCells_cons, show (k + 1) * 3 = k * 3 + 3 by omega]
      exact this
/-- A slice of records. -/
theorem Sv.recs {w : World} {v : Value} {rs : List PRec} (h : Sv 3 w v (recCells rs)) : ∃ a cap, v = .slice a rs.length cap ∧ rs.length ≤ cap ∧ cap ≤ maxLen ∧
    ∀ k (hk : k < rs.length), ∃ b off, a = some ⟨b, off, none⟩ ∧ b < w.heap.size ∧ w.cell? ⟨b, off + k * 3, none⟩ = some (.int .i64 rs[k].kind) ∧ w.cell? ⟨b, off + k * 3 + 1, none⟩ = some (.string rs[k].url) ∧ w.cell? ⟨b, off + k * 3 + 2, none⟩ = some (.string rs[k].body) := by
  obtain ⟨a, len, cap, rfl, h1, h2, h3, h4, hc⟩ := h
  have hl := recCells_len rs
  have hlen : len = rs.length := by omega
  subst hlen
  refine ⟨a, cap, rfl, h2, h3, fun k hk => ?_⟩
  obtain ⟨r0, r1, r2⟩ := recCells_at hk
  obtain ⟨b, off, rfl, c0⟩ := hc (k * 3) (by omega)
  obtain ⟨b', off', e, c1⟩ := hc (k * 3 + 1) (by omega)
  injection e with e
  cases e
  obtain ⟨b', off', e, c2⟩ := hc (k * 3 + 2) (by omega)
  injection e with e
  cases e
  rw [List.getD_eq_getElem?_getD, r0] at c0
  rw [List.getD_eq_getElem?_getD, r1] at c1
  rw [List.getD_eq_getElem?_getD, r2] at c2
  have hlt : b < w.heap.size := by
    by_cases hlt : b < w.heap.size
    · exact hlt
    · exfalso; simp [World.cell?, Array.getElem?_eq_none (Nat.le_of_not_lt hlt)] at c0
  exact ⟨b, off, rfl, hlt, c0, c1, c2⟩
end Go.Proofs.YtjokajblihaphaaGreatDoor
