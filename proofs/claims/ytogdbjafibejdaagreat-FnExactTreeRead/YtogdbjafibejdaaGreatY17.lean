/- Slices of structs among the arguments, opened as rows of cells; and a slice of pairs of strings. -/
import Derived.Test.YtogdbjafibejdaaGreatY14
import Derived.ChangeSlices
import Derived.ChangeArms
import Derived.Test.YtogdbjafibejdaaGreatY15
import Derived.Test.YtogdbjafibejdaaGreatY3
import Derived.Test.YtogdbjafibejdaaGreatY16
namespace Go.Proofs.YtogdbjafibejdaaGreat
open Go.RowKit Go.ChangeShapes Go.WideShapes
set_option maxRecDepth 100000
set_option linter.unusedVariables false

def pairCells (rs : List (ByteArray × ByteArray)) : List Value := rs.flatMap fun r => [.string r.1, .string r.2]
theorem pairCells_len (rs : List (ByteArray × ByteArray)) : (pairCells rs).length = rs.length * 2 := by
  induction rs with
  | nil => rfl
  | cons r rs ih => simp only [pairCells, List.flatMap_cons, List.length_append, List.length_cons, List.length_nil] at ih ⊢; omega

section
variable {H : Type} {enc : TypeId × Value → H} {P : Program} {w : World} {base : Nat} {spare : Nat → Bool} {held : Bool}
end
end Go.Proofs.YtogdbjafibejdaaGreat

/- Contracts of the specification's NameOk, at every string of at most 2^40 bytes. -/
namespace Go.Proofs.YtogdbjafibejdaaGreat
open Go.RowKit
set_option maxRecDepth 100000
set_option linter.unusedVariables false

theorem l1Ok_any (s : ByteArray) (w : World) (hs : s.size ≤ 1099511627776) : Calls Tryz.prog 71 #[.string s] w fun e w' => e = .returned (.bool (utfOk (bs s))) ∧ Below w.heap.size w w' := by
  obtain ⟨cap, w1, hc, hk, hcap, hm, hb⟩ := conv_str s w (by unfold maxLen; omega)
  have hl := bs_len s
  have hsl := hk.sl (n := s.size) (cap := cap) (by omega) (by omega) hm
  have hu := sutfOk_any hsl (bs_byte s) (by omega)
  clear hk
  go_enter Tryz.func71, Tryz.ntmps71
  go_wp2_with fail
  go_at_call 119
  refine hu.mono ?_
  rintro e w2 ⟨rfl, b2⟩
  go_wp2
  go_ret
  exact ⟨rfl, hb.trans (b2.mono hb.size)⟩

set_option maxHeartbeats 4000000 in
set_option maxRecDepth 100000 in
theorem snameOk_any (s : ByteArray) (w : World) (hs : s.size ≤ 1099511627776) :
    Calls Tryz.prog 107 #[.string s] w fun e w' => e = .returned (.bool (nameOk (bs s))) ∧ Below w.heap.size w w' := by
  have hl := bs_len s
  have hin := fun w => l1In_any s.size 1 60 w
  by_cases h1 : s.size < 1 ∨ 60 < s.size
  · have hn : nameOk (bs s) = false := by unfold nameOk; rw [hl, inB_no (by omega)]; rfl
    rw [hn]
    rw [inB_no (by omega)] at hin
    go_enter Tryz.func107, Tryz.ntmps107
    go_wp2_with fail
    go_at_call 57
    refine (hin _).mono ?_
    rintro e w2 ⟨rfl, rfl⟩
    go_wp2
    go_ret
    exact ⟨rfl, Below.refl _ _⟩
  · have h2 : 1 ≤ s.size := by omega
    have h3 : s.size ≤ 60 := by omega
    have h4 : 0 < s.size := by omega
    clear h1
    rw [inB_yes (by omega) (by omega)] at hin
    have hu := fun w => l1Ok_any s w hs
    have e1 : nameOk (bs s) = (utfOk (bs s) && inB ((bs s).getD 0 0) 97 122 && !((bs s).any badB)) := by unfold nameOk; rw [hl, inB_yes (by omega) (by omega)]; rfl
    obtain ⟨u, eu⟩ : ∃ u, u = utfOk (bs s) := ⟨_, rfl⟩
    rw [e1]
    rw [← eu] at hu ⊢
    clear e1 eu
    cases u
    · go_enter Tryz.func107, Tryz.ntmps107
      go_wp2_with fail
      go_at_call 57
      refine (hin _).mono ?_
      rintro e w1 ⟨rfl, rfl⟩
      go_wp2_with fail
      go_at_call 71
      refine (hu _).mono ?_
      rintro e w2 ⟨rfl, b2⟩
      go_wp2
      go_ret
      exact ⟨rfl, b2⟩
    · have hat0 := bs_at s 0 (by omega)
      have hbd0 := bs_bound s 0
      obtain ⟨y, hy⟩ : ∃ y, y = (bs s).getD 0 0 := ⟨_, rfl⟩
      rw [← hy] at hat0 hbd0 ⊢
      clear hy
      by_cases ha : y < 97 ∨ 122 < y
      · rw [inB_no ha]
        rcases ha with ha | ha
        · go_enter Tryz.func107, Tryz.ntmps107
          go_wp2_with fail
          go_at_call 57
          refine (hin _).mono ?_
          rintro e w1 ⟨rfl, rfl⟩
          go_wp2_with fail
          go_at_call 71
          refine (hu _).mono ?_
          rintro e w2 ⟨rfl, b2⟩
          go_wp2
          go_ret
          exact ⟨rfl, b2⟩
        · go_enter Tryz.func107, Tryz.ntmps107
          go_wp2_with fail
          go_at_call 57
          refine (hin _).mono ?_
          rintro e w1 ⟨rfl, rfl⟩
          go_wp2_with fail
          go_at_call 71
          refine (hu _).mono ?_
          rintro e w2 ⟨rfl, b2⟩
          go_wp2
          go_ret
          exact ⟨rfl, b2⟩
      · have ha0 : 97 ≤ y := by omega
        have ha1 : y ≤ 122 := by omega
        clear ha
        rw [inB_yes ha0 ha1]
        go_enter Tryz.func107, Tryz.ntmps107
        go_wp2_with fail
        go_at_call 57
        refine (hin _).mono ?_
        rintro e w1 ⟨rfl, rfl⟩
        go_wp2_with fail
        go_at_call 71
        refine (hu _).mono ?_
        rintro e w2 ⟨rfl, b2⟩
        clear hin hu
        go_wp2
        clear hat0 hbd0 ha0 ha1
        go_loop [3] (fun i => ∃ k : Nat, k ≤ s.size ∧ i = .int .i64 k ∧ ((bs s).take k).any badB = false) (fun i => s.size - (intOf i).toNat)
        case atStart => exact ⟨0, Nat.zero_le _, rfl, by simp⟩
        case round =>
          obtain ⟨k, hks, rfl, hno⟩ := hrel
          have HN : Hid (((bs s).take k).any badB = false) := hno
          clear hno
          by_cases hlt : k < s.size
          · have hat := bs_at s k hlt
            have hbk := bs_bound s k
            have HA : Hid (((bs s).take (k + 1)).any badB = (((bs s).take k).any badB || badB ((bs s).getD k 0))) := any_succ (by omega)
            have HO : Hid (badB ((bs s).getD k 0) = true → (bs s).any badB = true) := any_of (by omega)
            obtain ⟨x, hx⟩ : ∃ x, x = (bs s).getD k 0 := ⟨_, rfl⟩
            rw [← hx] at hat hbk HA HO
            clear hx
            have hbl := fun w => sblank_any x w
            rcases hb : isBlank x with _ | _
            · rw [hb] at hbl
              rcases (show x = 47 ∨ x = 62 ∨ x = 0 ∨ (65 ≤ x ∧ x ≤ 90) ∨ (x ≠ 47 ∧ x ≠ 62 ∧ x ≠ 0 ∧ (x < 65 ∨ 90 < x)) by omega) with h | h | h | h | h
              · subst h
                go_wp2_with fail
                go_at_call 151
                refine (hbl _).mono ?_
                rintro e w3 ⟨rfl, rfl⟩
                go_wp2
                go_ret
                exact ⟨ret_bool (by rw [HO.out (by decide)]; rfl), b2⟩
              · subst h
                go_wp2_with fail
                go_at_call 151
                refine (hbl _).mono ?_
                rintro e w3 ⟨rfl, rfl⟩
                go_wp2
                go_ret
                exact ⟨ret_bool (by rw [HO.out (by decide)]; rfl), b2⟩
              · subst h
                go_wp2_with fail
                go_at_call 151
                refine (hbl _).mono ?_
                rintro e w3 ⟨rfl, rfl⟩
                go_wp2
                go_ret
                exact ⟨ret_bool (by rw [HO.out (by decide)]; rfl), b2⟩
              · have hbad : Hid (badB x = true) := by show badB x = true; unfold badB; rw [inB_yes h.1 h.2]; simp
                obtain ⟨h5, h6⟩ := h
                have n0 : (x == 47) = false := by simp; omega
                have n1 : (x == 62) = false := by simp; omega
                have n2 : (x == 0) = false := by simp; omega
                clear hb
                go_wp2_with fail
                go_at_call 151
                refine (hbl _).mono ?_
                rintro e w3 ⟨rfl, rfl⟩
                go_wp2
                go_ret
                exact ⟨ret_bool (by rw [HO.out hbad.out]; rfl), b2⟩
              · obtain ⟨m0, m1, m2, h5⟩ := h
                have hbad : Hid (badB x = false) := by show badB x = false; unfold badB; rw [hb, inB_no h5]; simp [isBar, m0, m1, m2]
                have n0 : (x == 47) = false := by simp; omega
                have n1 : (x == 62) = false := by simp; omega
                have n2 : (x == 0) = false := by simp; omega
                clear hb m0 m1 m2
                rcases h5 with h5 | h5
                · go_wp2_with fail
                  go_at_call 151
                  refine (hbl _).mono ?_
                  rintro e w3 ⟨rfl, rfl⟩
                  go_wp2
                  go_round
                  case rel => exact ⟨k + 1, by omega, by go_num, by rw [HA.out, HN.out, hbad.out]; rfl⟩
                  case measure => simp [intOf]; omega
                · go_wp2_with fail
                  go_at_call 151
                  refine (hbl _).mono ?_
                  rintro e w3 ⟨rfl, rfl⟩
                  go_wp2
                  go_round
                  case rel => exact ⟨k + 1, by omega, by go_num, by rw [HA.out, HN.out, hbad.out]; rfl⟩
                  case measure => simp [intOf]; omega
            · rw [hb] at hbl
              have hbad : Hid (badB x = true) := by show badB x = true; unfold badB; rw [hb]; rfl
              clear hb
              go_wp2_with fail
              go_at_call 151
              refine (hbl _).mono ?_
              rintro e w3 ⟨rfl, rfl⟩
              go_wp2
              go_ret
              exact ⟨ret_bool (by rw [HO.out hbad.out]; rfl), b2⟩
          · have hkk : k = s.size := by omega
            subst hkk
            have hf : (bs s).any badB = false := by have := HN.out; rw [← hl, List.take_length] at this; exact this
            go_wp2
            go_ret
            exact ⟨ret_bool (by first | rfl | (rw [hf]; rfl)), b2⟩
end Go.Proofs.YtogdbjafibejdaaGreat

/- The law on append, said of slices of any values, several cells an element, that the call itself made. No condition. -/
namespace Go.Proofs.YtogdbjafibejdaaGreat
open Go.RowKit
set_option maxRecDepth 100000
set_option linter.unusedVariables false

theorem wpList_appV {P : Program} (w : World) {ops : Array Oper} {rest : List Oper} {o : Oper} {a : Act} {Q : Exit → Act → World → Prop} (hgd : o.guard = none)
    (s x : Operand) (t : TypeId) (ho : o.op = Op.call { callee := Callee.builtin Builtin.append, args := #[s, x], argTypes := #[t, t] }) (B : Nat) (e : TypeId) (i : TypeInfo)
    (z : Value) (size bytes : Nat) (ht : P.underlying t = some (TypeDesc.slice e)) (hi : P.info? e = some i) (hz : i.zero = some z) (hsize : i.size = size) (hby : i.bytes = bytes)
    (hzs : z.cells.size = size) (hpos : 0 < size) (v u : Value) (n m : Nat) (xs ys : List Value) (hs : a.eval s = v) (hx : a.eval x = u) (hown : w.ownsRow B e size v n xs) (hu : Sv size w u ys) (hm : ys.length = m * size)
    (h1 : ∀ y ∈ ys, y.oneCell' = true) (hb : (n + m) * bytes ≤ 140737488355328) (h63 : n + m ≤ maxLen) (hbase : B ≤ w.heap.size)
    (h : ∀ (v' : Value) (w' : World), w'.ownsRow B e size v' (n + m) (xs ++ ys) → w.grownBy w' v.ownBlock → wpList P ops Q rest (a.put o.dst v') w') :
    wpList P ops Q (o :: rest) a w := by
  obtain ⟨ao, len, cap, rfl, hl, hlc, hcm, hnone, hc⟩ := hu
  have hlm : len = m := Nat.eq_of_mul_eq_mul_right hpos (hl.symm.trans hm)
  subst hlm
  cases ao with
  | none =>
    have hc0 := hnone rfl
    subst hc0
    have hl0 : len = 0 := by omega
    subst hl0
    have hy : ys = [] := List.length_eq_zero_iff.mp (by omega)
    subst hy
    refine wpList_append_own_none hgd s x t ho B e i size ht hi v n _ hs hown hx (h v w ?_ (World.grownBy.refl _ _))
    rw [List.append_nil]; exact hown
  | some ad =>
    refine wpList_append_own w hgd s x t ho B e i z size bytes ht hi hz hsize hby hzs hpos v n _ hs hown ad len cap ys hx hl ?_ h1 h63 hb hbase ?_
    · intro j y hy
      have hj : j < ys.length := by
        by_cases hj : j < ys.length
        · exact hj
        · rw [List.getElem?_eq_none (Nat.le_of_not_lt hj)] at hy; cases hy
      obtain ⟨b, off, e, c⟩ := hc j hj
      cases e
      have e2 : ys.getD j undef = y := by rw [List.getD_eq_getElem?_getD, hy]; rfl
      rw [e2] at c
      rw [← c]
      by_cases h0 : j = 0
      · subst h0; simp [Addr.add]
      · simp [Addr.add, h0]
    · intro v' w' ho' hg' _
      exact h v' w' ho' hg'
theorem empty_row (w : World) (B : Nat) (e : TypeId) (size : Nat) (hB : B ≤ w.heap.size) : (w.alloc (.cells #[] e)).ownsRow B e size (.slice (some ⟨w.heap.size, 0, none⟩) 0 0) 0 [] := by
  refine ⟨by simp, .inr ⟨w.heap.size, 0, #[], rfl, hB, heap_alloc_new _ _, Nat.le_refl _, Nat.zero_le _, by simp, by simp⟩⟩
end Go.Proofs.YtogdbjafibejdaaGreat

/- IsVoid and IsRaw: both sides, at every string. -/
namespace Go.Proofs.YtogdbjafibejdaaGreat
open Go.RowKit
set_option maxRecDepth 100000
set_option linter.unusedVariables false
end Go.Proofs.YtogdbjafibejdaaGreat
