/- The laws' copies and marks of a row of records. No condition. -/
import Derived.Test.YtjokajblihaphaaGreatDoorU47
import Derived.Test.YtjokajblihaphaaGreatDoorU31
import Derived.Test.YtjokajblihaphaaGreatDoorU25
import Derived.Test.YtjokajblihaphaaGreatDoorU17
namespace Go.Proofs.YtjokajblihaphaaGreatDoor
open Go.RowKit
set_option maxRecDepth 100000
set_option linter.unusedVariables false

theorem rec_take_set {cs : List Value} {rs : List PRec} {k : Nat} (hk : k < rs.length) (hl : cs.length = rs.length * 3) (h : cs.take (k * 3) = recCells (rs.take k)) :
    (((cs.set (k * 3) (.int .i64 rs[k].kind)).set (k * 3 + 1) (.string rs[k].url)).set (k * 3 + 2) (.string rs[k].body)).take ((k + 1) * 3) = recCells (rs.take (k + 1)) := by
  have e1 : recCells (rs.take (k + 1)) = recCells (rs.take k) ++ [.int .i64 rs[k].kind, .string rs[k].url, .string rs[k].body] := by
    rw [List.take_succ_eq_append_getElem hk, recCells_app]
    rfl
  rw [e1, ← h]
  apply List.ext_getElem?
  intro i
  have e2 : (k + 1) * 3 = k * 3 + 3 := by omega
  by_cases hi : i < k * 3
  · rw [List.getElem?_take_of_lt (by omega), List.getElem?_set_ne (by omega), List.getElem?_set_ne (by omega), List.getElem?_set_ne (by omega), List.getElem?_append_left (by simp; omega), List.getElem?_take_of_lt hi]
  · have hlt : (cs.take (k * 3)).length = k * 3 := by simp; omega
    rw [List.getElem?_append_right (by omega), hlt]
    by_cases h0 : i = k * 3
    · subst h0
      rw [List.getElem?_take_of_lt (by omega), List.getElem?_set_ne (by omega), List.getElem?_set_ne (by omega), List.getElem?_set_self (by omega)]
      simp
    · by_cases h1 : i = k * 3 + 1
      · subst h1
        rw [List.getElem?_take_of_lt (by omega), List.getElem?_set_ne (by omega), List.getElem?_set_self (by rw [List.length_set]; omega)]
        simp
      · by_cases h2 : i = k * 3 + 2
        · subst h2
          rw [List.getElem?_take_of_lt (by omega), List.getElem?_set_self (by rw [List.length_set, List.length_set]; omega)]
          simp
        · rw [List.getElem?_eq_none (by simp; omega), List.getElem?_eq_none (by simp; omega)]

/-- The marks that are laid over a row of records, from k on. -/
def markRecs (k : Int) (n : Nat) : List PRec := (List.range n).map fun i : Nat => ⟨k + 3 * (i : Int), mt (k + 3 * (i : Int) + 1), mt (k + 3 * (i : Int) + 1 + 1)⟩
theorem markRecs_len (k : Int) (n : Nat) : (markRecs k n).length = n := by simp [markRecs]
theorem markRecs_at (k : Int) (n i : Nat) (h : i < (markRecs k n).length) : (markRecs k n)[i] = ⟨k + 3 * (i : Int), mt (k + 3 * (i : Int) + 1), mt (k + 3 * (i : Int) + 1 + 1)⟩ := by simp [markRecs]
theorem markRecs_succ (k : Int) (rs : List PRec) (i : Nat) (h : i < rs.length) :
    (markRecs k i ++ rs.drop i).set i ⟨k + 3 * (i : Int), mt (k + 3 * (i : Int) + 1), mt (k + 3 * (i : Int) + 1 + 1)⟩ = markRecs k (i + 1) ++ rs.drop (i + 1) := by
  rw [List.set_append_right _ _ (by rw [markRecs_len]; exact Nat.le_refl _), markRecs_len, Nat.sub_self, List.drop_eq_getElem_cons h, List.set_cons_zero]
  simp [markRecs, List.range_succ]
theorem recCells_set (ls : List PRec) (j : Nat) (a : Int) (p q : ByteArray) (h : j < ls.length) : (((recCells ls).set (j * 3) (.int .i64 a)).set (j * 3 + 1) (.string p)).set (j * 3 + 2) (.string q) = recCells (ls.set j ⟨a, p, q⟩) := by
  induction ls generalizing j with
  | nil => simp at h
  | cons r rs ih =>
    cases j with
    | zero => simp [recCells]
    | succ j =>
      have e := ih j (by simpa using h)
      have e1 : (j + 1) * 3 = j * 3 + 1 + 1 + 1 := by omega
      simp only [recCells, List.flatMap_cons, List.cons_append, List.nil_append, e1, List.set_cons_succ] at e ⊢
      rw [e]

end Go.Proofs.YtjokajblihaphaaGreatDoor

/- Contracts of the specification's AttrsOk and AttrsSame. -/
namespace Go.Proofs.YtjokajblihaphaaGreatDoor
open Go.RowKit
set_option maxRecDepth 100000
set_option linter.unusedVariables false

theorem attrsTo_iff (rs : List (ByteArray × ByteArray)) : attrsTo rs = true ↔ (∀ i (hi : i < rs.length), attrOk rs[i] = true) ∧ ∀ i j (hi : i < rs.length) (hj : j < rs.length), i < j → rs[i].1 ≠ rs[j].1 := by
  unfold attrsTo
  rw [Bool.and_eq_true, List.all_eq_true, decide_eq_true_eq, List.pairwise_iff_getElem]
  constructor
  · rintro ⟨h1, h2⟩
    exact ⟨fun i hi => h1 _ (List.getElem_mem hi), h2⟩
  · rintro ⟨h1, h2⟩
    refine ⟨fun p hp => ?_, h2⟩
    obtain ⟨i, hi, rfl⟩ := List.getElem_of_mem hp
    exact h1 i hi
theorem attrsTo_succ {rs : List (ByteArray × ByteArray)} {k : Nat} (hk : k < rs.length) (h : attrsTo (rs.take k) = true) (ha : attrOk rs[k] = true) (hd : ∀ j (hj : j < k), (rs[j]'(by omega)).1 ≠ rs[k].1) : attrsTo (rs.take (k + 1)) = true := by
  rw [attrsTo_iff] at h ⊢
  have hl : (rs.take (k + 1)).length = k + 1 := by simp; omega
  have hl0 : (rs.take k).length = k := by simp; omega
  refine ⟨fun i hi => ?_, fun i j hi hj hij => ?_⟩
  · rw [List.getElem_take]
    by_cases hik : i < k
    · have := h.1 i (by omega); rw [List.getElem_take] at this; exact this
    · have e : i = k := by omega
      subst e; exact ha
  · rw [List.getElem_take, List.getElem_take]
    by_cases hjk : j < k
    · have := h.2 i j (by omega) (by omega) hij
      rw [List.getElem_take, List.getElem_take] at this; exact this
    · have e : j = k := by omega
      subst e; exact hd i hij
theorem attrsTo_bad {rs : List (ByteArray × ByteArray)} {k : Nat} (hk : k < rs.length) (h : attrOk rs[k] = false) : attrsTo rs = false := by
  rcases he : attrsTo rs with _ | _
  · rfl
  · rw [((attrsTo_iff rs).mp he).1 k hk] at h; cases h
theorem attrsTo_twice {rs : List (ByteArray × ByteArray)} {j k : Nat} (hj : j < rs.length) (hk : k < rs.length) (hjk : j < k) (h : rs[j].1 = rs[k].1) : attrsTo rs = false := by
  rcases he : attrsTo rs with _ | _
  · rfl
  · exact absurd h (((attrsTo_iff rs).mp he).2 j k hj hk hjk)

set_option maxHeartbeats 2000000 in
set_option maxRecDepth 100000 in
theorem sattrsOk_any {v : Value} {rs : List (ByteArray × ByteArray)} {w : World} (h : Sv 2 w v (pairCells rs)) (hn : rs.length ≤ 1099511627776) (hs : ∀ p ∈ rs, p.1.size ≤ 1099511627776 ∧ p.2.size ≤ 1099511627776) :
    Calls Tryz.prog 185 #[v] w fun e w' => e = .returned (.bool (attrsOk rs)) ∧ Below w.heap.size w w' := by
  obtain ⟨a, ca, rfl, _, _, hca⟩ := h.pair
  have HS := (show Hid (∀ p ∈ rs, p.1.size ≤ 1099511627776 ∧ p.2.size ≤ 1099511627776) from hs)
  clear h hs
  by_cases h20 : 20 < rs.length
  · have hr : attrsOk rs = false := by unfold attrsOk; rw [decide_eq_false (by omega)]; rfl
    rw [hr]
    go_enter Tryz.func185, Tryz.ntmps185
    go_wp2
    go_ret
    exact ⟨rfl, Below.refl _ _⟩
  · have hr : attrsOk rs = attrsTo rs := by unfold attrsOk; rw [decide_eq_true (by omega)]; rfl
    rw [hr]
    have h21 : rs.length ≤ 20 := by omega
    clear hr h20
    go_enter Tryz.func185, Tryz.ntmps185
    go_wp2
    go_loopw [3] (fun i wr => ∃ k : Nat, k ≤ rs.length ∧ i = .int .i64 k ∧ attrsTo (rs.take k) = true ∧ Below w.heap.size w wr) (fun i _ => rs.length - (intOf i).toNat)
    case atStart => exact ⟨0, Nat.zero_le _, rfl, rfl, Below.refl _ _⟩
    case round =>
      obtain ⟨k, hk, rfl, hto, bel⟩ := hrel
      have HTO := (show Hid (attrsTo (rs.take k) = true) from hto)
      clear hto
      by_cases hlt : k < rs.length
      · obtain ⟨b1, o1, rfl, l1, c1, c2⟩ := hca k hlt
        have d1 : wr.cell? ⟨b1, o1 + k * 2, none⟩ = some (.string rs[k].1) := (bel.cell (p := ⟨b1, o1 + k * 2, none⟩) l1).trans c1
        have d2 : wr.cell? ⟨b1, o1 + k * 2 + 1, none⟩ = some (.string rs[k].2) := (bel.cell (p := ⟨b1, o1 + k * 2 + 1, none⟩) l1).trans c2
        have hsz := HS.out rs[k] (List.getElem_mem hlt)
        have cc := fun w => l4Attr_any rs[k] w hsz.1 hsz.2
        have HBAD : Hid (attrOk rs[k] = false → attrsTo rs = false) := attrsTo_bad hlt
        have HSUC : Hid (attrOk rs[k] = true → (∀ j (hj : j < k), (rs[j]'(by omega)).1 ≠ rs[k].1) → attrsTo (rs.take (k + 1)) = true) := attrsTo_succ hlt HTO.out
        have HTW : Hid (∀ j (hj : j < rs.length), j < k → rs[j].1 = rs[k].1 → attrsTo rs = false) := fun j hj hjk e => attrsTo_twice hj hlt hjk e
        obtain ⟨x, hx⟩ : ∃ x, x = rs[k] := ⟨_, rfl⟩
        rw [← hx] at c1 d1 d2 cc HBAD HSUC HTW
        clear hx c2 hsz
        obtain ⟨p, hp⟩ : ∃ p, p = attrOk x := ⟨_, rfl⟩
        rw [← hp] at cc HBAD HSUC
        have CC := (show Hid _ from cc)
        clear cc hp
        cases p
        · go_wp2_with fail
          go_at_call 224
          refine (CC.out _).mono ?_
          rintro e w2 ⟨rfl, b2⟩
          replace b2 := bel.trans (b2.mono bel.size)
          clear d1 d2
          go_wp2
          go_ret
          exact ⟨ret_bool (by rw [HBAD.out (by simp)]), b2⟩
        · go_wp2_with fail
          go_at_call 224
          refine (CC.out _).mono ?_
          rintro e w2 ⟨rfl, b2⟩
          replace b2 := bel.trans (b2.mono bel.size)
          clear d1 d2 HBAD CC
          go_wp2
          go_loopw [4] (fun i wr => ∃ j : Nat, j ≤ k ∧ i = .int .i64 j ∧ (∀ t (ht : t < rs.length), t < j → rs[t].1 ≠ x.1) ∧ Below w.heap.size w wr) (fun i _ => k - (intOf i).toNat)
          case atStart => exact ⟨0, Nat.zero_le _, rfl, fun t ht h => absurd h (by omega), b2⟩
          case round =>
            clear b2
            obtain ⟨j, hj, rfl, hall, bel2⟩ := hrel
            have HALL := (show Hid (∀ t (ht : t < rs.length), t < j → rs[t].1 ≠ x.1) from hall)
            clear hall
            by_cases hjk : j < k
            · have hjl : j < rs.length := by omega
              obtain ⟨b3, o3, e3, l3, c3, _⟩ := hca j hjl
              cases e3
              have d3 : wr.cell? ⟨b1, o1 + j * 2, none⟩ = some (.string rs[j].1) := (bel2.cell (p := ⟨b1, o1 + j * 2, none⟩) l1).trans c3
              have dk : wr.cell? ⟨b1, o1 + k * 2, none⟩ = some (.string x.1) := (bel2.cell (p := ⟨b1, o1 + k * 2, none⟩) l1).trans c1
              have HTW2 := (show Hid (rs[j].1 = x.1 → attrsTo rs = false) from HTW.out j hjl hjk)
              have HNX : Hid (rs[j].1 ≠ x.1 → ∀ t (ht : t < rs.length), t < j + 1 → rs[t].1 ≠ x.1) := fun hne t ht htj => by
                by_cases e : t = j
                · subst e; exact hne
                · exact HALL.out t ht (by omega)
              have hjl2 : (j : Int) < (rs.length : Int) := by omega
              have hkl2 : (k : Int) < (rs.length : Int) := by omega
              obtain ⟨y, hy⟩ : ∃ y, y = rs[j] := ⟨_, rfl⟩
              rw [← hy] at d3 HTW2 HNX
              clear hy c3 hca c1 HALL
              by_cases hyx : y.1 = x.1
              · have HF := (show Hid _ from HTW2.out hyx)
                rw [hyx] at d3
                clear HTW HTW2 HNX HSUC
                go_wp2
                go_quiet (fail)
                go_wp2
                go_ret
                exact ⟨ret_bool (by rw [HF.out]), bel2.trans (below_drewN _)⟩
              · have HG := (show Hid _ from HNX.out hyx)
                have hd := toList_ne hyx
                clear HTW HTW2 HNX HSUC
                go_wp2
                go_quiet (fail)
                go_wp2
                go_roundw
                case rel => exact ⟨j + 1, by omega, by go_num, HG.out, bel2.trans (below_drewN _)⟩
                case measure => simp [intOf]; omega
            · have hjk2 : j = k := by omega
              have HG : Hid (attrsTo (rs.take (k + 1)) = true) := HSUC.out (by simp) (fun t ht => HALL.out t (by omega) (by omega))
              clear HTW HSUC HALL hca c1
              go_wp2
              go_roundw
              case rel => exact ⟨k + 1, by omega, by go_num, HG.out, bel2⟩
              case measure => simp [intOf]; omega
      · have hke : k = rs.length := by omega
        have hto := HTO.out
        rw [hke, List.take_length] at hto
        have HT2 := (show Hid _ from hto)
        clear hto
        go_wp2
        go_ret
        exact ⟨ret_bool (by rw [HT2.out]), bel⟩
end Go.Proofs.YtjokajblihaphaaGreatDoor

/- Contracts of the specification's AttrsSame and AttrAdd. -/
namespace Go.Proofs.YtjokajblihaphaaGreatDoor
open Go.RowKit
set_option maxRecDepth 100000
set_option linter.unusedVariables false

theorem pair_oneCell (rs : List (ByteArray × ByteArray)) : ∀ y ∈ pairCells rs, y.oneCell' = true := by
  intro y hy
  unfold pairCells at hy
  obtain ⟨r, _, hr⟩ := List.mem_flatMap.mp hy
  simp at hr
  rcases hr with rfl | rfl <;> rfl
theorem pairCells_app (rs qs : List (ByteArray × ByteArray)) : pairCells rs ++ pairCells qs = pairCells (rs ++ qs) := by unfold pairCells; rw [List.flatMap_append]

theorem attrsSame_len {a b : List (ByteArray × ByteArray)} (h : a.length ≠ b.length) : attrsSame a b = false := by unfold attrsSame; rw [decide_eq_false h]; rfl
theorem attrsSame_no {a b : List (ByteArray × ByteArray)} {k : Nat} (hk : k < a.length) (h : attrOf b a[k].1 ≠ (a[k].2, true)) : attrsSame a b = false := by
  unfold attrsSame
  rw [Bool.and_eq_false_iff]
  right
  rw [List.all_eq_false]
  exact ⟨a[k], List.getElem_mem hk, by simpa using h⟩
theorem attrsSame_yes {a b : List (ByteArray × ByteArray)} (hl : a.length = b.length) (h : ∀ k (hk : k < a.length), attrOf b a[k].1 = (a[k].2, true)) : attrsSame a b = true := by
  unfold attrsSame
  rw [decide_eq_true hl, Bool.true_and, List.all_eq_true]
  intro p hp
  obtain ⟨k, hk, rfl⟩ := List.getElem_of_mem hp
  simpa using h k hk

set_option maxHeartbeats 2000000 in
set_option maxRecDepth 100000 in
theorem sattrsSame_any {va vb : Value} {rs qs : List (ByteArray × ByteArray)} {w : World} (ha : Sv 2 w va (pairCells rs)) (hb : Sv 2 w vb (pairCells qs)) (hn : rs.length ≤ 1099511627776) (hm : qs.length ≤ 1099511627776) :
    Calls Tryz.prog 310 #[va, vb] w fun e w' => e = .returned (.bool (attrsSame rs qs)) ∧ w' = w := by
  have CB := (show Hid (∀ nm, Calls Tryz.prog 242 #[vb, .string nm] w fun e w' => e = .returned (.tuple #[.string (attrOf qs nm).1, .bool (attrOf qs nm).2]) ∧ w' = w) from fun nm => sattrOf_any hb nm hm)
  obtain ⟨a, ca, rfl, _, _, hca⟩ := ha.pair
  obtain ⟨b, cb, rfl, _, _, hcb⟩ := hb.pair
  clear ha hb hcb
  by_cases hl : rs.length = qs.length
  · have hn2 : ((rs.length : Int) != (qs.length : Int)) = false := by simp [hl]
    have HL := (show Hid _ from hl)
    clear hl
    go_enter Tryz.func310, Tryz.ntmps310
    go_wp2
    go_loop [5] (fun i => ∃ k : Nat, k ≤ rs.length ∧ i = .int .i64 k ∧ ∀ t (ht : t < rs.length), t < k → attrOf qs rs[t].1 = (rs[t].2, true)) (fun i => rs.length - (intOf i).toNat)
    case atStart => exact ⟨0, Nat.zero_le _, rfl, fun t ht h => absurd h (by omega)⟩
    case round =>
      obtain ⟨k, hk, rfl, hall⟩ := hrel
      have HALL := (show Hid (∀ t (ht : t < rs.length), t < k → attrOf qs rs[t].1 = (rs[t].2, true)) from hall)
      clear hall
      by_cases hlt : k < rs.length
      · obtain ⟨b1, o1, rfl, l1, c1, c2⟩ := hca k hlt
        have HNO := (show Hid (attrOf qs rs[k].1 ≠ (rs[k].2, true) → attrsSame rs qs = false) from attrsSame_no hlt)
        have HNX : Hid (attrOf qs rs[k].1 = (rs[k].2, true) → ∀ t (ht : t < rs.length), t < k + 1 → attrOf qs rs[t].1 = (rs[t].2, true)) := fun he t ht htk => by
          by_cases e : t = k
          · subst e; exact he
          · exact HALL.out t ht (by omega)
        obtain ⟨x, hx⟩ : ∃ x, x = rs[k] := ⟨_, rfl⟩
        rw [← hx] at c1 c2 HNO HNX
        clear hx hca HALL
        obtain ⟨xn, xv⟩ := x
        simp only at c1 c2 HNO HNX
        have cx := CB.out xn
        obtain ⟨r, hr⟩ : ∃ r, r = attrOf qs xn := ⟨_, rfl⟩
        rw [← hr] at cx HNO HNX
        have CX : Hid (Calls Tryz.prog 242 #[.slice b qs.length cb, .string xn] w fun e w' => e = .returned (.tuple #[.string r.1, .bool r.2]) ∧ w' = w) := cx
        clear hr cx
        obtain ⟨rv, rb⟩ := r
        simp only at CX
        cases rb
        · have HF := (show Hid _ from HNO.out (by simp))
          clear HNO HNX
          go_wp2_with fail
          go_at_call 242
          refine CX.out.mono ?_
          rintro e w1 ⟨rfl, rfl⟩
          go_wp2
          go_ret
          exact ⟨ret_bool (by rw [HF.out]), rfl⟩
        · by_cases hv : rv = xv
          · have HG := (show Hid _ from HNX.out (by rw [hv]))
            subst hv
            clear HNO HNX
            go_wp2_with fail
            go_at_call 242
            refine CX.out.mono ?_
            rintro e w1 ⟨rfl, rfl⟩
            go_wp2
            go_round
            case rel => exact ⟨k + 1, by omega, by go_num, HG.out⟩
            case measure => simp [intOf]; omega
          · have HF := (show Hid _ from HNO.out (by simp [hv]))
            have hd := toList_ne hv
            clear HNO HNX
            go_wp2_with fail
            go_at_call 242
            refine CX.out.mono ?_
            rintro e w1 ⟨rfl, rfl⟩
            go_wp2
            go_ret
            exact ⟨ret_bool (by rw [HF.out]), rfl⟩
      · have HT := (show Hid _ from attrsSame_yes HL.out (fun t ht => HALL.out t ht (by omega)))
        clear HALL hca
        go_wp2
        go_ret
        exact ⟨ret_bool (by rw [HT.out]), rfl⟩
  · have hn2 : ((rs.length : Int) != (qs.length : Int)) = true := by simp; omega
    rw [attrsSame_len hl]
    go_enter Tryz.func310, Tryz.ntmps310
    go_wp2
    go_ret
    exact ⟨rfl, rfl⟩

theorem grown_cell {w w' : World} {g b k : Nat} (h : w.grownBy w' (some g)) (hne : b ≠ g) (hb : b < w.heap.size) : w'.cell? ⟨b, k, none⟩ = w.cell? ⟨b, k, none⟩ := by
  simp only [World.cell?, h.block b hb (fun e => hne (Option.some.inj e))]
theorem attrAdd_no {rs : List (ByteArray × ByteArray)} {p : ByteArray × ByteArray} (h : ((attrOf rs p.1).2 || decide (20 ≤ rs.length) || !attrOk p) = true) : attrAdd rs p = rs := by unfold attrAdd; rw [if_pos h]
theorem attrAdd_yes {rs : List (ByteArray × ByteArray)} {p : ByteArray × ByteArray} (h : ((attrOf rs p.1).2 || decide (20 ≤ rs.length) || !attrOk p) = false) : attrAdd rs p = rs ++ [p] := by unfold attrAdd; rw [if_neg (by rw [h]; decide)]

set_option maxHeartbeats 2000000 in
set_option maxRecDepth 100000 in
theorem sattrAdd_any {v : Value} {rs : List (ByteArray × ByteArray)} {w : World} (h : Sv 2 w v (pairCells rs)) (p : ByteArray × ByteArray) (hn : rs.length ≤ 1048576) (h1 : p.1.size ≤ 1099511627776) (h2 : p.2.size ≤ 1099511627776) :
    Calls Tryz.prog 219 #[v, .agg #[.string p.1, .string p.2]] w fun e w' => ∃ v', e = .returned v' ∧ w'.ownsRow w.heap.size 167 2 v' (attrAdd rs p).length (pairCells (attrAdd rs p)) ∧ Below w.heap.size w w' := by
  obtain ⟨i0, hi, hz0, hz1, hz2⟩ := info_parts Tryz.infoA
  have hlen := pairCells_len rs
  have H := (show Hid (Sv 2 w v (pairCells rs)) from h)
  obtain ⟨a, ca, rfl, _, _, _⟩ := h.pair
  clear h
  obtain ⟨pn, pv⟩ := p
  simp only at h1 h2 ⊢
  obtain ⟨wb, hwb⟩ : ∃ wb, wb = w.alloc (.cells #[.string pn, .string pv] 167) := ⟨_, rfl⟩
  have bb : Below w.heap.size w wb := by rw [hwb]; exact (Below.refl _ _).alloc (Nat.le_refl _) _
  have cb0 : wb.cell? ⟨w.heap.size, 0, none⟩ = some (.string pn) := by rw [hwb]; simp
  have cb1 : wb.cell? ⟨w.heap.size, 1, none⟩ = some (.string pv) := by rw [hwb]; simp
  have hbs : wb.heap.size = w.heap.size + 1 := by rw [hwb]; simp
  have oe := empty_row wb w.heap.size 167 2 (by omega)
  have be : Below wb.heap.size wb (wb.alloc (.cells #[] 167)) := (Below.refl _ _).alloc (Nat.le_refl _) _
  have hsv := (H.out.below bb).below be
  rw [hbs, hwb] at oe
  rw [hwb] at hsv
  go_enter Tryz.func219, Tryz.ntmps219
  go_wp2_with (at_builtin; refine wpList_appV _ rfl (.tmp 8) (.tmp 9) 162 rfl w.heap.size 167 i0 _ 2 32 Tryz.underlying162 hi hz0 hz1 hz2 rfl (by decide) _ _ 0 rs.length [] (pairCells rs) rfl rfl oe hsv hlen (pair_oneCell rs) (by omega) (by unfold maxLen; omega) (by simp <;> omega) ?_; intro v1 w1 o1 g1; rw [List.nil_append, Nat.zero_add] at o1; have cn := (grown_cell (b := w.heap.size) (k := 0) g1 (by simp) (by simp; omega)).trans (by simp : _ = some (Value.string pn)); have cv := (grown_cell (b := w.heap.size) (k := 1) g1 (by simp) (by simp; omega)).trans (by simp : _ = some (Value.string pv)))
  have b1 : Below w.heap.size w w1 := (((Below.refl _ w).alloc (Nat.le_refl _) _).alloc (by simp) _).grown g1 (by simp; omega) (fun j hj => by have e : some (w.heap.size + 1) = some j := hj; injection e with e; omega)
  have HO := (show Hid (w1.ownsRow w.heap.size 167 2 v1 rs.length (pairCells rs)) from o1)
  have cof := sattrOf_any (H.out.below b1) pn (by omega)
  have CL := (show Hid (∀ w, Calls Tryz.prog 224 #[.agg #[.string pn, .string pv]] w fun e w' => e = .returned (.bool (attrOk (pn, pv))) ∧ Below w.heap.size w w') from fun w => l4Attr_any (pn, pv) w h1 h2)
  have HNO := (show Hid (((attrOf rs pn).2 || decide (20 ≤ rs.length) || !attrOk (pn, pv)) = true → attrAdd rs (pn, pv) = rs) from fun h => attrAdd_no (p := (pn, pv)) h)
  have HYES := (show Hid (((attrOf rs pn).2 || decide (20 ≤ rs.length) || !attrOk (pn, pv)) = false → attrAdd rs (pn, pv) = rs ++ [(pn, pv)]) from fun h => attrAdd_yes (p := (pn, pv)) h)
  obtain ⟨r, hr⟩ : ∃ r, r = attrOf rs pn := ⟨_, rfl⟩
  obtain ⟨ok, hok⟩ : ∃ ok, ok = attrOk (pn, pv) := ⟨_, rfl⟩
  rw [← hr] at cof HNO HYES
  rw [← hok] at CL HNO HYES
  obtain ⟨ov, has⟩ := r
  simp only at HNO HYES cof
  clear hr hok o1 oe hsv be bb cb0 cb1 hbs hwb H g1
  refine cof.mono ?_
  rintro e w1 ⟨rfl, rfl⟩
  clear cof
  cases has
  · by_cases h20 : 20 ≤ rs.length
    · have HA := (show Hid _ from HNO.out (by simp [h20]))
      clear HNO HYES CL
      go_wp2
      go_ret
      exact ⟨_, rfl, by rw [HA.out]; exact HO.out, b1⟩
    · cases ok
      · have HA := (show Hid _ from HNO.out (by simp))
        clear HNO HYES
        go_wp2_with fail
        go_at_call 224
        refine (CL.out _).mono ?_
        rintro e w2 ⟨rfl, b2⟩
        have o2 := ownsRow_below HO.out b2
        replace b2 := b1.trans (b2.mono b1.size)
        go_wp2
        go_ret
        exact ⟨_, rfl, by rw [HA.out]; exact o2, b2⟩
      · have HA := (show Hid _ from HYES.out (by simp; omega))
        clear HNO HYES
        go_wp2_with fail
        go_at_call 224
        refine (CL.out _).mono ?_
        rintro e w2 ⟨rfl, b2⟩
        have hlt : w.heap.size < w1.heap.size := by
          by_cases hl : w.heap.size < w1.heap.size
          · exact hl
          · exfalso; simp [World.cell?, Array.getElem?_eq_none (Nat.le_of_not_lt hl)] at cn
        have cn2 : w2.cell? ⟨w.heap.size, 0, none⟩ = some (.string pn) := (b2.cell (p := ⟨w.heap.size, 0, none⟩) hlt).trans cn
        have cv2 : w2.cell? ⟨w.heap.size, 1, none⟩ = some (.string pv) := (b2.cell (p := ⟨w.heap.size, 1, none⟩) hlt).trans cv
        have o2 := ownsRow_below HO.out b2
        replace b2 := b1.trans (b2.mono b1.size)
        have hb2 := b2.size
        have o3 := ownsRow_below o2 ((Below.refl _ w2).alloc (Nat.le_refl _) (.cells #[.string pn, .string pv] 167))
        have hone : Sv 2 (w2.alloc (.cells #[.string pn, .string pv] 167)) (.slice (some ⟨w2.heap.size, 0, none⟩) 1 1) (pairCells [(pn, pv)]) :=
          sv_of_own (World.ownsRow_lit (base := w2.heap.size) (e := 167) (size := 2) w2 #[.string pn, .string pv] 1 (Nat.le_refl _) (by unfold maxLen; omega) rfl)
        clear HO CL cn cv
        go_wp2_with (at_builtin; refine wpList_appV _ rfl (.tmp 30) (.tmp 32) 162 rfl w.heap.size 167 i0 _ 2 32 Tryz.underlying162 hi hz0 hz1 hz2 rfl (by decide) _ _ rs.length 1 (pairCells rs) (pairCells [(pn, pv)]) rfl rfl o3 hone rfl (pair_oneCell _) (by omega) (by unfold maxLen; omega) (by simp <;> omega) ?_; intro v4 w4 o4 g4; rw [pairCells_app] at o4)
        go_ret
        refine ⟨_, rfl, ?_, (b2.alloc hb2 _).grown g4 (by simp; omega) (fun j hj => (o3.lt j hj).1)⟩
        rw [HA.out, List.length_append, List.length_singleton]; exact o4
  · have HA := (show Hid _ from HNO.out (by simp))
    clear HNO HYES CL
    go_wp2
    go_ret
    exact ⟨_, rfl, by rw [HA.out]; exact HO.out, b1⟩
end Go.Proofs.YtjokajblihaphaaGreatDoor

/- The exact laws of AttrsOk, AttrOf and AttrsSame, walked from contracts of the program's functions. -/
namespace Go.Proofs.YtjokajblihaphaaGreatDoor
open Go.RowKit
set_option maxRecDepth 100000
set_option linter.unusedVariables false

/-- Every text of a list is short. -/
def Short (rs : List (ByteArray × ByteArray)) : Prop := rs.length ≤ 1048576 ∧ ∀ p ∈ rs, p.1.size ≤ 1099511627776 ∧ p.2.size ≤ 1099511627776

theorem short_of {rs : List (ByteArray × ByteArray)} {l r : Int} (hl : l ≤ 1048576) (h : (rs.length : Int) ≤ l ∧ ∀ p ∈ rs, (p.1.size : Int) + p.2.size ≤ l) : Short rs :=
  ⟨by have := h.1; omega, fun p hp => by have := h.2 p hp; omega⟩

end Go.Proofs.YtjokajblihaphaaGreatDoor

/- What the exact law of AttrAdd asks of the program's function, and rows of values that are apart. -/
namespace Go.Proofs.YtjokajblihaphaaGreatDoor
open Go.RowKit
set_option maxRecDepth 100000
set_option linter.unusedVariables false

theorem row_ne {B size size' n n' : Nat} {e e' : TypeId} {w w' : World} {v v' : Value} {xs ys : List Value} (h : w.ownsRow B e size v n xs) (h' : w'.ownsRow w.heap.size e' size' v' n' ys) :
    ∀ k j, v.ownBlock = some k → v'.ownBlock = some j → k ≠ j := fun k j hk hj => by
  have a := (World.ownsRow.lt h k hk).2
  have b := (World.ownsRow.lt h' j hj).1
  omega
theorem row_kept {B size n : Nat} {e : TypeId} {w w' : World} {v v1 : Value} {xs : List Value} (h : w.ownsRow B e size v n xs) (hg : w.grownBy w' v1.ownBlock)
    (hne : ∀ k j, v.ownBlock = some k → v1.ownBlock = some j → k ≠ j) : w'.ownsRow B e size v n xs := by
  by_cases h0 : v.ownBlock = none
  · exact World.ownsRow.kept h hg (.inl h0)
  · obtain ⟨k, hk⟩ := Option.ne_none_iff_exists'.mp h0
    by_cases h1 : v1.ownBlock = none
    · exact World.ownsRow.kept h hg (.inr (by rw [h1]; exact h0))
    · obtain ⟨j, hj⟩ := Option.ne_none_iff_exists'.mp h1
      exact World.ownsRow.kept h hg (.inr (by rw [hk, hj]; intro e; exact hne k j hk hj (Option.some.inj e)))
theorem row_base {B B' size n : Nat} {e : TypeId} {w : World} {v : Value} {xs : List Value} (h : w.ownsRow B e size v n xs) (hB : B' ≤ B) : w.ownsRow B' e size v n xs := by
  obtain ⟨hl, hv | ⟨g, cap, cur, hv, hb, r⟩⟩ := h
  · exact ⟨hl, .inl hv⟩
  · exact ⟨hl, .inr ⟨g, cap, cur, hv, Nat.le_trans hB hb, r⟩⟩

theorem attrAdd_len (rs : List (ByteArray × ByteArray)) (p : ByteArray × ByteArray) : (attrAdd rs p).length ≤ rs.length + 1 := by unfold attrAdd; split <;> simp
end Go.Proofs.YtjokajblihaphaaGreatDoor

/- The exact law of Records from its contract. -/
namespace Go.Proofs.YtjokajblihaphaaGreatDoor
open Go.RowKit
set_option maxRecDepth 100000
set_option linter.unusedVariables false

def RecordsOk : Prop := ∀ (v : Value) (xs : List Int) (w : World), Sl .u8 w v xs → (∀ x ∈ xs, 0 ≤ x ∧ x ≤ 255) → xs.length ≤ 1048576 → Calls Tryz.prog 151 #[v] w fun e w' => ∃ v', e = .returned (.tuple #[v', .bool (recsR xs).2]) ∧ OwnRs w.heap.size w' v' (recsR xs).1 ∧ Below w.heap.size w w'

theorem recsF_len {xs : List Int} (hb : ∀ x ∈ xs, 0 ≤ x ∧ x ≤ 255) : ∀ (f i : Nat) (l : List PRec), recsF xs f i = some l → l.length ≤ xs.length - i := by
  intro f
  induction f with
  | zero => intro i l h; cases h
  | succ f ih =>
    intro i l h
    unfold recsF at h
    split at h
    · rename_i hi
      split at h
      · rename_i hok
        have hn := readR_next (r := (readR xs i).1) (j := (readR xs i).2.1) (by rw [← hok]) hb
        cases hq : recsF xs f (readR xs i).2.1.toNat with
        | none => rw [hq] at h; cases h
        | some l' =>
          rw [hq] at h
          simp only [Option.map_some, Option.some.injEq] at h
          have := ih _ _ hq
          rw [← h, List.length_cons]
          omega
      · cases h
    · simp only [Option.some.injEq] at h
      rw [← h]
      exact Nat.zero_le _
theorem recsR_len {xs : List Int} (hb : ∀ x ∈ xs, 0 ≤ x ∧ x ≤ 255) : (recsR xs).1.length ≤ xs.length := by
  unfold recsR
  cases h : recsF xs (xs.length + 1) 0 with
  | none => exact Nat.zero_le _
  | some l => exact recsF_len hb _ _ _ h

end Go.Proofs.YtjokajblihaphaaGreatDoor
